/-
  The document's Path; TargetPaths: the walk.
-/
import Derived.Test.YtodgpcohdaejkabDoorGPt
import Derived.Test.YtodgpcohdaejkabDoorGRe
import Derived.Test.YtodgpcohdaejkabDoorGRs
import Derived.Test.YtodgpcohdaejkabDoorGAw
set_option linter.unusedVariables false
set_option linter.unusedSimpArgs false
namespace Go.Proofs.YtodgpcohdaejkabDoor
open Go.RowKit Go.Shelf
namespace Tg
open Oc

/-- One step of a region that draws: a text appended. -/
theorem step_apS {ops : Array Oper} {o : Oper} {a : Act} {K : Act → World → Prop} {Q : Exit → Act → World → Prop} {E : Prop} (hgd : o.guard = none) (s x : Operand)
    (ho : o.op = .call { callee := .builtin .append, args := #[s, x], argTypes := #[31, 9] }) (B : Nat) (v : Value) (l : List UInt8) (t : ByteArray) (W : World)
    (hs : a.eval s = v) (hown : Ow B v l W) (hx : a.eval x = .string t) (hlen : l.length + t.size ≤ 140737488355328) (hB : B ≤ W.heap.size)
    (h : ∀ v' w', Hid (Ow B v' (l ++ t.data.toList) w') → Hid (Below B W w') → K (a.put o.dst v') w') : if Region.wanted o (yielded ops a.tmps) = true then Oper.wp Tryd.prog o a W K Q else E := by
  obtain ⟨i0, hi, hz0, hz1, hz2⟩ := inf5
  have hw : Region.wanted o (yielded ops a.tmps) = true := by simp [Region.wanted, hgd]
  rw [if_pos hw]
  obtain ⟨v', w', hrun, h1, h2, _⟩ := Lib.run_append_own_string (P := Tryd.prog) (w := W) B 31 9 o.type 5 i0 Tryd.underlying31 Tryd.underlying9 hi hz0 hz1 hz2 v l.length (Lib.byteCells l) hown t (by unfold maxLen; omega) (by omega) hB
  have := h v' w' (by
    show Ow B v' (l ++ t.data.toList) w'
    unfold Ow
    rw [List.length_append, cells_app]
    rw [show Lib.strCells t = Lib.byteCells t.data.toList by rw [← cells_str, str_self]] at h1
    have e : t.data.toList.length = t.size := size_list t
    rw [e]
    exact h1) ((Below.refl B W).grown h2 hB (fun k hk => (World.ownsRow.lt hown k hk).1))
  unfold Oper.wp
  simp [execOp, ho, resolve, invoke, builtin, hs, hx, hrun, Result.andThen]
  exact this

attribute [local go_sem ↓] Go.wp_at_zero Go.wp_at_succ
set_option maxRecDepth 100000 in
set_option maxHeartbeats 4000000 in
theorem rPath_any (v : Value) (t : List (List UInt8)) (hb : t.length + sumT t ≤ 1048576) (w : World) (hr : RdS v t w) :
    Calls Tryd.prog 6 #[v] w fun e w' => e = .returned (.string (str (pathR t))) ∧ Below w.heap.size w w' := by
  obtain ⟨a, c, rfl, hcs⟩ := hr
  have HN : Hid (_) := Ow.none w
  have HC : Hid (t = [] ∨ ∃ g o, a = some ⟨g, o, none⟩ ∧ t.length ≤ c ∧ ∀ j, j < t.length → w.cell? ⟨g, o + j, none⟩ = some (.string (str (t.getD j [])))) := hcs
  clear hcs
  go_enter Tryd.func6, Tryd.ntmps6
  go_wp2
  go_loopw [3, 4] (fun ov i wr => ∃ k : Nat, k ≤ t.length ∧ i = .int .i64 k ∧ Hid (Ow w.heap.size ov (joinS ((t.take k).map enc)) wr) ∧ Hid (Below w.heap.size w wr)) (fun _ i _ => t.length - (intOf i).toNat)
  case atStart => exact ⟨0, Nat.zero_le _, rfl, HN.out, (Below.refl _ w).alloc (Nat.le_refl _) _⟩
  case round =>
    obtain ⟨k, hk, rfl, hown, hbl⟩ := hrel
    have hsz := hbl.out.size
    by_cases hlt : k < t.length
    · rcases HC.out with h | ⟨g, o, rfl, hcap, hcell⟩
      · rw [h] at hlt; simp at hlt
      have hg : g < w.heap.size := cell_lt (hcell k hlt)
      have hce := (hbl.out.cell (p := ⟨g, o + k, none⟩) hg).trans (hcell k hlt)
      have HT : Hid (_) := encs_take t k hlt
      have hjl := joinE_len (t.take k)
      have hst := sumT_take t k
      have hgl := get_le t k hlt
      have HJ : Hid ((joinS ((t.take k).map enc)).length ≤ 4000000) := by show _ ≤ _; rw [List.length_take] at hjl; omega
      have hxs : (str (t.getD k [])).size ≤ 1048576 := by rw [str_size]; omega
      have HE : Hid (∀ W, Calls Tryd.prog 14 #[.string (str (t.getD k []))] W fun e W' => e = .returned (.string (str (enc (t.getD k [])))) ∧ Below W.heap.size W W') := fun W => by
        have := rEncode_any (str (t.getD k [])) (by omega) W
        rw [str_list] at this
        exact this
      have hel := enc_len (t.getD k [])
      have hes : (str (enc (t.getD k []))).size ≤ 3145728 := by rw [str_size]; omega
      have hel2 : (str (enc (t.getD k []))).data.toList = enc (t.getD k []) := str_list _
      rw [← hel2] at HT
      clear hjl hst hgl hel hel2 hcell
      generalize str (enc (t.getD k [])) = Y at *
      generalize str (t.getD k []) = X at *
      generalize joinS ((t.take k).map enc) = tt at *
      have hce0 : wr.drew.cell? ⟨g, o + k, none⟩ = some (.string X) := hce
      have HOd : Hid (Ow w.heap.size u3 tt wr.drew) := hown.out
      have HCS : Hid ((#[Value.int .u8 47] : Array Value).toList = Lib.byteCells [47]) := (rfl : (#[Value.int .u8 47] : Array Value).toList = Lib.byteCells [47])
      have hzw : w.heap.size ≤ wr.drew.heap.size := hsz
      have hgw : g < wr.heap.size := Nat.lt_of_lt_of_le hg hsz
      have hce1 : (wr.drew.alloc (.cells #[.int .u8 47] 5)).cell? ⟨g, o + k, none⟩ = some (.string X) := (Below.cell ((Below.refl _ wr.drew).alloc (Nat.le_refl _) _) (p := ⟨g, o + k, none⟩) hgw).trans hce0
      go_wp2_with fail
      go_region_law (first | (refine step_ap rfl (.tmp 12) (.tmp 13) rfl w.heap.size u3 tt [47] 1 rfl wr.drew _ HCS.out (by simp [Act.eval, Act.put]) HOd.out (by simp [Act.eval, Act.put]) (by have := HJ.out; simp; omega) hzw ?_; intro v2 w2 HO2 HB2; have hce2 := (HB2.out.cell (p := ⟨g, o + k, none⟩) hg).trans hce0; have hw2 := HB2.out.size) | (go_simp; go_at_call 14; refine (HE.out _).mono ?_; rintro e w3 ⟨rfl, k3⟩; dsimp only; have HO3 : Hid (Ow w.heap.size v2 (tt ++ [47]) w3) := HO2.out.below k3; have hw3 := k3.size) | (refine step_apS rfl (.tmp 14) (.tmp 19) rfl w.heap.size v2 (tt ++ [47]) Y w3 (by simp [Act.eval, Act.put]) HO3.out (by simp [Act.eval, Act.put]) (by have := HJ.out; simp; omega) (Nat.le_trans hzw (Nat.le_trans hw2 hw3)) ?_; intro v4 w4 HO4 HB4))
      all_goals go_wp2
      all_goals exact ⟨⟨k + 1, by omega, by go_num, (by rw [HT.out]; exact HO4.out : Ow w.heap.size _ (joinS ((t.take (k + 1)).map enc)) _), hbl.out.drew.trans (HB2.out.trans ((k3.mono (Nat.le_trans hzw hw2)).trans HB4.out))⟩, by simp [intOf]; omega⟩
    · obtain rfl : k = t.length := by omega
      have hback := hown.out.back
      rw [List.take_length] at hback
      by_cases h0 : t.length = 0
      · have hnil : t = [] := List.length_eq_zero_iff.1 h0
        have HP : Hid (pathR t = [47]) := by show _ = _; unfold pathR; rw [if_pos hnil]
        have hne : ((t.length : Int) == 0) = true := by simp [h0]
        clear hback hnil
        go_wp2
        go_ret
        exact ⟨by rw [HP.out]; rfl, hbl.out⟩
      · have hnn : t ≠ [] := fun e => h0 (by rw [e]; rfl)
        have HP : Hid (pathR t = joinS (t.map enc)) := by show _ = _; unfold pathR; rw [if_neg hnn]
        have hne : ((t.length : Int) == 0) = false := by simp; omega
        obtain ⟨R, hR⟩ : ∃ R, R = joinS (t.map enc) := ⟨_, rfl⟩
        rw [← hR] at hback
        have HE2 : Hid (_ = _) := hR
        clear hR hnn
        go_wp2
        go_ret
        exact ⟨by rw [HP.out, ← HE2.out]; rfl, hbl.out⟩

/-- The segments of a path of segments. -/
theorem segR_path (t : List (List UInt8)) (h : t ≠ []) : segR (pathR t) = (t, 0) := by
  unfold pathR
  rw [if_neg h]
  have hno : ∀ z ∈ t.map enc, 47 ∉ z := by
    intro z hz hm
    obtain ⟨u, _, rfl⟩ := List.mem_map.1 hz
    rcases enc_mem u 47 hm with e | e
    · exact absurd e (by decide)
    · rw [unr47] at e; cases e
  have hok : ∀ z ∈ t.map enc, allOk pathOk z = true := by
    intro z hz
    obtain ⟨u, _, rfl⟩ := List.mem_map.1 hz
    exact enc_ok pathOk (fun c hc => unr_path hc) u
  unfold segR
  rw [if_pos (isPath_join _ (by simpa using h) hok), splitB_join _ (by simpa using h) hno, List.map_map]
  congr 1
  conv => rhs; rw [← List.map_id t]
  refine List.map_congr_left fun z _ => ?_
  show (decR (enc z)).1 = id z
  rw [dec_enc]; rfl
theorem segR_slash : segR [47] = ([[]], 0) := by
  have o47 : allOk pathOk [47] = true := by unfold allOk; rw [zs_one 47 [] rfl, zs_nil]; decide +kernel
  have hp : isPath [47] = true := by unfold isPath; rw [o47]; rfl
  unfold segR
  rw [if_pos hp]
  have e : segs [47] = [[]] := rfl
  rw [e, List.map_cons, List.map_nil]
  have hw : whole [] = true := by unfold whole; rw [zs_nil]; rfl
  rw [decR_whole [] hw, zs_nil]
  rfl
theorem pathR_len (t : List (List UInt8)) : (pathR t).length ≤ 1 + t.length + 3 * sumT t := by
  unfold pathR
  split
  · simp; omega
  · have := joinE_len t; omega

set_option maxRecDepth 100000 in
set_option maxHeartbeats 4000000 in
theorem walk_TargetPaths (v : Value) (t : List (List UInt8)) (hb : t.length + sumT t ≤ 1048576) (w : World) (hr : RdS v t w) (hm : ML w) :
    Calls Tryd.prog 3 #[v] w fun e w' => e = .returned (.bool true) ∧ Below w.heap.size w w' := by
  have HA : Hid (∀ w, ML w → _) := fun w h => awake_any w h
  have HP : Hid (∀ w, RdS v t w → _) := fun w h => Path_any v t hb w h
  have HQ : Hid (∀ w, RdS v t w → _) := fun w h => rPath_any v t hb w h
  have hpl := pathR_len t
  have hps : (str (pathR t)).size ≤ 4194305 := by rw [str_size]; omega
  have HS : Hid (∀ w, ML w → Calls Tryd.prog 7 #[.string (str (pathR t))] w fun e w' => ∃ v', e = .returned (.tuple #[v', .int .i64 0]) ∧ OwnS w.heap.size v' (if t = [] then [[]] else t) w' ∧ Below w.heap.size w w') := fun w h => by
    have := Segments_any (str (pathR t)) (by omega) w h
    rw [str_list] at this
    by_cases h0 : t = []
    · rw [show pathR t = [47] from by unfold pathR; rw [if_pos h0], segR_slash] at this
      rw [if_pos h0, show pathR t = [47] from by unfold pathR; rw [if_pos h0]]
      exact this
    · rw [segR_path t h0] at this
      rw [if_neg h0]
      exact this
  have HR : Hid (RdS v t w) := hr
  have HM : Hid (ML w) := hm
  obtain ⟨a, c, rfl, _⟩ := hr
  clear hm hpl
  generalize str (pathR t) = P at *
  go_enter Tryd.func3, Tryd.ntmps3
  go_wp2_with fail
  refine (HP.out _ HR.out).mono ?_
  rintro e w1 ⟨rfl, h1⟩
  have H1 : Hid (Below w.heap.size w w1) := h1
  clear h1
  go_wp2_with fail
  refine (HA.out _ (HM.out.below H1.out)).mono ?_
  rintro e w2 ⟨rfl, h2⟩
  have H2 : Hid (Below w.heap.size w w2) := H1.out.trans (h2.mono H1.out.size)
  clear h2
  go_wp2_with fail
  refine (HQ.out _ (HR.out.below H2.out)).mono ?_
  rintro e w3 ⟨rfl, h3⟩
  have H3 : Hid (Below w.heap.size w w3) := H2.out.trans (h3.mono H2.out.size)
  clear h3
  go_wp2_with fail
  refine (HS.out _ (HM.out.below H3.out)).mono ?_
  rintro e w4 ⟨v4, rfl, o4, h4⟩
  have H4 : Hid (Below w.heap.size w w4) := H3.out.trans (h4.mono H3.out.size)
  clear h4
  by_cases h0 : t = []
  · rw [if_pos h0] at o4
    have HO : Hid (OwnS w3.heap.size v4 [[]] w4) := o4
    have hl : ((t.length : Int) == 0) = true := by simp [h0]
    have hal : Below w4.heap.size w4 (w4.alloc (.cells #[.string ⟨#[]⟩] 9)) := (Below.refl _ _).alloc (Nat.le_refl _) _
    have HS1 : Hid (Calls Tryd.prog 8 #[v4, .slice (some ⟨w4.heap.size, 0, none⟩) 1 1] (w4.alloc (.cells #[.string ⟨#[]⟩] 9)) fun e w' => e = .returned (.bool true) ∧ ∃ n, w' = (w4.alloc (.cells #[.string ⟨#[]⟩] 9)).drewN n) := by
      have := same_any v4 (.slice (some ⟨w4.heap.size, 0, none⟩) 1 1) [[]] [[]] (w4.alloc (.cells #[.string ⟨#[]⟩] 9)) (OwnS.rd (OwnS.below o4 hal)) (rd_one w4 []) (by simp) (by simp)
      rw [decide_eq_true rfl] at this
      exact this
    have HAL : Hid (_) := hal
    clear o4 hal
    go_wp2_with fail
    refine HS1.out.mono ?_
    rintro e w6 ⟨rfl, n6, rfl⟩
    have H6 : Hid (Below w.heap.size w ((w4.alloc (.cells #[.string ⟨#[]⟩] 9)).drewN n6)) := by
      have := H4.out.trans (HAL.out.mono H4.out.size)
      exact ⟨this.os, this.tape, this.output, this.size, this.block⟩
    go_wp2
    go_ret
    exact ⟨rfl, H6.out⟩
  · rw [if_neg h0] at o4
    have hl : ((t.length : Int) == 0) = false := by simp; exact fun e => h0 e
    have HS1 : Hid (Calls Tryd.prog 8 #[v4, .slice a t.length c] w4 fun e w' => e = .returned (.bool true) ∧ ∃ n, w' = w4.drewN n) := by
      have := same_any v4 (.slice a t.length c) t t w4 (OwnS.rd o4) (HR.out.below H4.out) (by omega) (by omega)
      rw [decide_eq_true rfl] at this
      exact this
    clear o4 h0
    go_wp2_with fail
    refine HS1.out.mono ?_
    rintro e w6 ⟨rfl, n6, rfl⟩
    have H6 : Hid (Below w.heap.size w (w4.drewN n6)) := ⟨H4.out.os, H4.out.tape, H4.out.output, H4.out.size, H4.out.block⟩
    go_wp2
    go_ret
    exact ⟨rfl, H6.out⟩

end Tg
end Go.Proofs.YtodgpcohdaejkabDoor
