import Derived.Test.YtdcfhnbagldilaaGreatDoorMgD
set_option linter.unusedVariables false
set_option linter.unusedSimpArgs false
namespace Go.Proofs.YtdcfhnbagldilaaGreatDoor
open Go.RowKit Go.Shelf
namespace Ms
open Oc Tg _root_.Go.Proofs.YtdcfhnbagldilaaGreatDoor.Fd
def rsC (n : Int) : List UInt8 :=
  if n = 400 then [66, 97, 100, 32, 82, 101, 113, 117, 101, 115, 116] else
  if n = 401 then [85, 110, 97, 117, 116, 104, 111, 114, 105, 122, 101, 100] else
  if n = 403 then [70, 111, 114, 98, 105, 100, 100, 101, 110] else
  if n = 404 then [78, 111, 116, 32, 70, 111, 117, 110, 100] else
  if n = 405 then [77, 101, 116, 104, 111, 100, 32, 78, 111, 116, 32, 65, 108, 108, 111, 119, 101, 100] else
  if n = 406 then [78, 111, 116, 32, 65, 99, 99, 101, 112, 116, 97, 98, 108, 101] else
  if n = 408 then [82, 101, 113, 117, 101, 115, 116, 32, 84, 105, 109, 101, 111, 117, 116] else
  if n = 411 then [76, 101, 110, 103, 116, 104, 32, 82, 101, 113, 117, 105, 114, 101, 100] else
  if n = 412 then [80, 114, 101, 99, 111, 110, 100, 105, 116, 105, 111, 110, 32, 70, 97, 105, 108, 101, 100] else
  if n = 413 then [67, 111, 110, 116, 101, 110, 116, 32, 84, 111, 111, 32, 76, 97, 114, 103, 101] else
  if n = 414 then [85, 82, 73, 32, 84, 111, 111, 32, 76, 111, 110, 103] else
  if n = 415 then [85, 110, 115, 117, 112, 112, 111, 114, 116, 101, 100, 32, 77, 101, 100, 105, 97, 32, 84, 121, 112, 101] else
  if n = 416 then [82, 97, 110, 103, 101, 32, 78, 111, 116, 32, 83, 97, 116, 105, 115, 102, 105, 97, 98, 108, 101] else
  if n = 417 then [69, 120, 112, 101, 99, 116, 97, 116, 105, 111, 110, 32, 70, 97, 105, 108, 101, 100] else
  if n = 421 then [77, 105, 115, 100, 105, 114, 101, 99, 116, 101, 100, 32, 82, 101, 113, 117, 101, 115, 116] else
  if n = 422 then [85, 110, 112, 114, 111, 99, 101, 115, 115, 97, 98, 108, 101, 32, 67, 111, 110, 116, 101, 110, 116] else
  if n = 426 then [85, 112, 103, 114, 97, 100, 101, 32, 82, 101, 113, 117, 105, 114, 101, 100] else
  if n = 428 then [80, 114, 101, 99, 111, 110, 100, 105, 116, 105, 111, 110, 32, 82, 101, 113, 117, 105, 114, 101, 100] else
  if n = 429 then [84, 111, 111, 32, 77, 97, 110, 121, 32, 82, 101, 113, 117, 101, 115, 116, 115] else
  if n = 431 then [82, 101, 113, 117, 101, 115, 116, 32, 72, 101, 97, 100, 101, 114, 32, 70, 105, 101, 108, 100, 115, 32, 84, 111, 111, 32, 76, 97, 114, 103, 101] else
  []
def rsL (n : Int) : List UInt8 :=
  if n = 100 then [67, 111, 110, 116, 105, 110, 117, 101] else
  if n = 101 then [83, 119, 105, 116, 99, 104, 105, 110, 103, 32, 80, 114, 111, 116, 111, 99, 111, 108, 115] else
  if n = 200 then [79, 75] else
  if n = 201 then [67, 114, 101, 97, 116, 101, 100] else
  if n = 202 then [65, 99, 99, 101, 112, 116, 101, 100] else
  if n = 204 then [78, 111, 32, 67, 111, 110, 116, 101, 110, 116] else
  if n = 206 then [80, 97, 114, 116, 105, 97, 108, 32, 67, 111, 110, 116, 101, 110, 116] else
  if n = 301 then [77, 111, 118, 101, 100, 32, 80, 101, 114, 109, 97, 110, 101, 110, 116, 108, 121] else
  if n = 302 then [70, 111, 117, 110, 100] else
  if n = 303 then [83, 101, 101, 32, 79, 116, 104, 101, 114] else
  if n = 304 then [78, 111, 116, 32, 77, 111, 100, 105, 102, 105, 101, 100] else
  if n = 307 then [84, 101, 109, 112, 111, 114, 97, 114, 121, 32, 82, 101, 100, 105, 114, 101, 99, 116] else
  if n = 308 then [80, 101, 114, 109, 97, 110, 101, 110, 116, 32, 82, 101, 100, 105, 114, 101, 99, 116] else
  if n = 500 then [73, 110, 116, 101, 114, 110, 97, 108, 32, 83, 101, 114, 118, 101, 114, 32, 69, 114, 114, 111, 114] else
  if n = 501 then [78, 111, 116, 32, 73, 109, 112, 108, 101, 109, 101, 110, 116, 101, 100] else
  if n = 502 then [66, 97, 100, 32, 71, 97, 116, 101, 119, 97, 121] else
  if n = 503 then [83, 101, 114, 118, 105, 99, 101, 32, 85, 110, 97, 118, 97, 105, 108, 97, 98, 108, 101] else
  if n = 504 then [71, 97, 116, 101, 119, 97, 121, 32, 84, 105, 109, 101, 111, 117, 116] else
  if n = 505 then [72, 84, 84, 80, 32, 86, 101, 114, 115, 105, 111, 110, 32, 78, 111, 116, 32, 83, 117, 112, 112, 111, 114, 116, 101, 100] else
  rsC n
def codes : List Int := [100, 101, 200, 201, 202, 204, 206, 301, 302, 303, 304, 307, 308, 400, 401, 403, 404, 405, 406, 408, 411, 412, 413, 414, 415, 416, 417, 421, 422, 426, 428, 429, 431, 500, 501, 502, 503, 504, 505]
theorem rsC_none {n : Int} (h : ∀ k ∈ codes, n ≠ k) : rsC n = [] := by
  unfold rsC
  rw [if_neg (h 400 (by decide))]
  rw [if_neg (h 401 (by decide))]
  rw [if_neg (h 403 (by decide))]
  rw [if_neg (h 404 (by decide))]
  rw [if_neg (h 405 (by decide))]
  rw [if_neg (h 406 (by decide))]
  rw [if_neg (h 408 (by decide))]
  rw [if_neg (h 411 (by decide))]
  rw [if_neg (h 412 (by decide))]
  rw [if_neg (h 413 (by decide))]
  rw [if_neg (h 414 (by decide))]
  rw [if_neg (h 415 (by decide))]
  rw [if_neg (h 416 (by decide))]
  rw [if_neg (h 417 (by decide))]
  rw [if_neg (h 421 (by decide))]
  rw [if_neg (h 422 (by decide))]
  rw [if_neg (h 426 (by decide))]
  rw [if_neg (h 428 (by decide))]
  rw [if_neg (h 429 (by decide))]
  rw [if_neg (h 431 (by decide))]
theorem rsL_none {n : Int} (h : ∀ k ∈ codes, n ≠ k) : rsL n = [] := by
  unfold rsL
  rw [if_neg (h 100 (by decide))]
  rw [if_neg (h 101 (by decide))]
  rw [if_neg (h 200 (by decide))]
  rw [if_neg (h 201 (by decide))]
  rw [if_neg (h 202 (by decide))]
  rw [if_neg (h 204 (by decide))]
  rw [if_neg (h 206 (by decide))]
  rw [if_neg (h 301 (by decide))]
  rw [if_neg (h 302 (by decide))]
  rw [if_neg (h 303 (by decide))]
  rw [if_neg (h 304 (by decide))]
  rw [if_neg (h 307 (by decide))]
  rw [if_neg (h 308 (by decide))]
  rw [if_neg (h 500 (by decide))]
  rw [if_neg (h 501 (by decide))]
  rw [if_neg (h 502 (by decide))]
  rw [if_neg (h 503 (by decide))]
  rw [if_neg (h 504 (by decide))]
  rw [if_neg (h 505 (by decide))]
  exact rsC_none h
def inf (n : Int) : Bool := decide (100 ≤ n ∧ n ≤ 199)
def nvr (n : Int) : Bool := inf n || (n == 204 || n == 304)
def tun (m : List UInt8) (n : Int) : Bool := decide (m = [67, 79, 78, 78, 69, 67, 84]) && decide (200 ≤ n ∧ n ≤ 299)
def bdl (m : List UInt8) (n : Int) : Bool := nvr n || (decide (m = [72, 69, 65, 68]) || tun m n)
def itm (n : Int) : Bool := inf n && n != 101
set_option maxRecDepth 100000 in
set_option maxHeartbeats 4000000 in
theorem clientsReason_any (n : Int) (w : World) :
    Calls Tryz.prog 91 #[.int .i64 n] w fun e w' => e = .returned (.string (str (rsC n))) ∧ w' = w := by
  obtain ⟨R, hR⟩ : ∃ R, R = rsC n := ⟨_, rfl⟩
  have HR : Hid (R = rsC n) := hR
  rw [← hR]
  clear hR
  go_enter Tryz.func91, Tryz.ntmps91
  by_cases h400 : n = 400
  · subst h400
    go_wp2
    go_ret
    exact ⟨by rw [HR.out]; rfl, rfl⟩
  have q400 : (n == 400) = false := by simp [h400]
  have HR : Hid (R = _) := HR.out.trans (show rsC n = _ from if_neg h400)
  by_cases h401 : n = 401
  · subst h401
    go_wp2
    go_ret
    exact ⟨by rw [HR.out]; rfl, rfl⟩
  have q401 : (n == 401) = false := by simp [h401]
  have HR : Hid (R = _) := HR.out.trans (if_neg h401)
  by_cases h403 : n = 403
  · subst h403
    go_wp2
    go_ret
    exact ⟨by rw [HR.out]; rfl, rfl⟩
  have q403 : (n == 403) = false := by simp [h403]
  have HR : Hid (R = _) := HR.out.trans (if_neg h403)
  by_cases h404 : n = 404
  · subst h404
    go_wp2
    go_ret
    exact ⟨by rw [HR.out]; rfl, rfl⟩
  have q404 : (n == 404) = false := by simp [h404]
  have HR : Hid (R = _) := HR.out.trans (if_neg h404)
  by_cases h405 : n = 405
  · subst h405
    go_wp2
    go_ret
    exact ⟨by rw [HR.out]; rfl, rfl⟩
  have q405 : (n == 405) = false := by simp [h405]
  have HR : Hid (R = _) := HR.out.trans (if_neg h405)
  by_cases h406 : n = 406
  · subst h406
    go_wp2
    go_ret
    exact ⟨by rw [HR.out]; rfl, rfl⟩
  have q406 : (n == 406) = false := by simp [h406]
  have HR : Hid (R = _) := HR.out.trans (if_neg h406)
  by_cases h408 : n = 408
  · subst h408
    go_wp2
    go_ret
    exact ⟨by rw [HR.out]; rfl, rfl⟩
  have q408 : (n == 408) = false := by simp [h408]
  have HR : Hid (R = _) := HR.out.trans (if_neg h408)
  by_cases h411 : n = 411
  · subst h411
    go_wp2
    go_ret
    exact ⟨by rw [HR.out]; rfl, rfl⟩
  have q411 : (n == 411) = false := by simp [h411]
  have HR : Hid (R = _) := HR.out.trans (if_neg h411)
  by_cases h412 : n = 412
  · subst h412
    go_wp2
    go_ret
    exact ⟨by rw [HR.out]; rfl, rfl⟩
  have q412 : (n == 412) = false := by simp [h412]
  have HR : Hid (R = _) := HR.out.trans (if_neg h412)
  by_cases h413 : n = 413
  · subst h413
    go_wp2
    go_ret
    exact ⟨by rw [HR.out]; rfl, rfl⟩
  have q413 : (n == 413) = false := by simp [h413]
  have HR : Hid (R = _) := HR.out.trans (if_neg h413)
  by_cases h414 : n = 414
  · subst h414
    go_wp2
    go_ret
    exact ⟨by rw [HR.out]; rfl, rfl⟩
  have q414 : (n == 414) = false := by simp [h414]
  have HR : Hid (R = _) := HR.out.trans (if_neg h414)
  by_cases h415 : n = 415
  · subst h415
    go_wp2
    go_ret
    exact ⟨by rw [HR.out]; rfl, rfl⟩
  have q415 : (n == 415) = false := by simp [h415]
  have HR : Hid (R = _) := HR.out.trans (if_neg h415)
  by_cases h416 : n = 416
  · subst h416
    go_wp2
    go_ret
    exact ⟨by rw [HR.out]; rfl, rfl⟩
  have q416 : (n == 416) = false := by simp [h416]
  have HR : Hid (R = _) := HR.out.trans (if_neg h416)
  by_cases h417 : n = 417
  · subst h417
    go_wp2
    go_ret
    exact ⟨by rw [HR.out]; rfl, rfl⟩
  have q417 : (n == 417) = false := by simp [h417]
  have HR : Hid (R = _) := HR.out.trans (if_neg h417)
  by_cases h421 : n = 421
  · subst h421
    go_wp2
    go_ret
    exact ⟨by rw [HR.out]; rfl, rfl⟩
  have q421 : (n == 421) = false := by simp [h421]
  have HR : Hid (R = _) := HR.out.trans (if_neg h421)
  by_cases h422 : n = 422
  · subst h422
    go_wp2
    go_ret
    exact ⟨by rw [HR.out]; rfl, rfl⟩
  have q422 : (n == 422) = false := by simp [h422]
  have HR : Hid (R = _) := HR.out.trans (if_neg h422)
  by_cases h426 : n = 426
  · subst h426
    go_wp2
    go_ret
    exact ⟨by rw [HR.out]; rfl, rfl⟩
  have q426 : (n == 426) = false := by simp [h426]
  have HR : Hid (R = _) := HR.out.trans (if_neg h426)
  by_cases h428 : n = 428
  · subst h428
    go_wp2
    go_ret
    exact ⟨by rw [HR.out]; rfl, rfl⟩
  have q428 : (n == 428) = false := by simp [h428]
  have HR : Hid (R = _) := HR.out.trans (if_neg h428)
  by_cases h429 : n = 429
  · subst h429
    go_wp2
    go_ret
    exact ⟨by rw [HR.out]; rfl, rfl⟩
  have q429 : (n == 429) = false := by simp [h429]
  have HR : Hid (R = _) := HR.out.trans (if_neg h429)
  by_cases h431 : n = 431
  · subst h431
    go_wp2
    go_ret
    exact ⟨by rw [HR.out]; rfl, rfl⟩
  have q431 : (n == 431) = false := by simp [h431]
  have HR : Hid (R = _) := HR.out.trans (if_neg h431)
  go_wp2
  go_ret
  exact ⟨by rw [HR.out]; rfl, rfl⟩
set_option maxRecDepth 100000 in
set_option maxHeartbeats 4000000 in
theorem Reason_any (n : Int) (w : World) :
    Calls Tryz.prog 52 #[.int .i64 n] w fun e w' => e = .returned (.string (str (rsL n))) ∧ w' = w := by
  obtain ⟨R, hR⟩ : ∃ R, R = rsL n := ⟨_, rfl⟩
  have HR : Hid (R = rsL n) := hR
  rw [← hR]
  clear hR
  go_enter Tryz.func52, Tryz.ntmps52
  by_cases h100 : n = 100
  · subst h100
    go_wp2
    go_ret
    exact ⟨by rw [HR.out]; rfl, rfl⟩
  have q100 : (n == 100) = false := by simp [h100]
  have HR : Hid (R = _) := HR.out.trans (show rsL n = _ from if_neg h100)
  by_cases h101 : n = 101
  · subst h101
    go_wp2
    go_ret
    exact ⟨by rw [HR.out]; rfl, rfl⟩
  have q101 : (n == 101) = false := by simp [h101]
  have HR : Hid (R = _) := HR.out.trans (if_neg h101)
  by_cases h200 : n = 200
  · subst h200
    go_wp2
    go_ret
    exact ⟨by rw [HR.out]; rfl, rfl⟩
  have q200 : (n == 200) = false := by simp [h200]
  have HR : Hid (R = _) := HR.out.trans (if_neg h200)
  by_cases h201 : n = 201
  · subst h201
    go_wp2
    go_ret
    exact ⟨by rw [HR.out]; rfl, rfl⟩
  have q201 : (n == 201) = false := by simp [h201]
  have HR : Hid (R = _) := HR.out.trans (if_neg h201)
  by_cases h202 : n = 202
  · subst h202
    go_wp2
    go_ret
    exact ⟨by rw [HR.out]; rfl, rfl⟩
  have q202 : (n == 202) = false := by simp [h202]
  have HR : Hid (R = _) := HR.out.trans (if_neg h202)
  by_cases h204 : n = 204
  · subst h204
    go_wp2
    go_ret
    exact ⟨by rw [HR.out]; rfl, rfl⟩
  have q204 : (n == 204) = false := by simp [h204]
  have HR : Hid (R = _) := HR.out.trans (if_neg h204)
  by_cases h206 : n = 206
  · subst h206
    go_wp2
    go_ret
    exact ⟨by rw [HR.out]; rfl, rfl⟩
  have q206 : (n == 206) = false := by simp [h206]
  have HR : Hid (R = _) := HR.out.trans (if_neg h206)
  by_cases h301 : n = 301
  · subst h301
    go_wp2
    go_ret
    exact ⟨by rw [HR.out]; rfl, rfl⟩
  have q301 : (n == 301) = false := by simp [h301]
  have HR : Hid (R = _) := HR.out.trans (if_neg h301)
  by_cases h302 : n = 302
  · subst h302
    go_wp2
    go_ret
    exact ⟨by rw [HR.out]; rfl, rfl⟩
  have q302 : (n == 302) = false := by simp [h302]
  have HR : Hid (R = _) := HR.out.trans (if_neg h302)
  by_cases h303 : n = 303
  · subst h303
    go_wp2
    go_ret
    exact ⟨by rw [HR.out]; rfl, rfl⟩
  have q303 : (n == 303) = false := by simp [h303]
  have HR : Hid (R = _) := HR.out.trans (if_neg h303)
  by_cases h304 : n = 304
  · subst h304
    go_wp2
    go_ret
    exact ⟨by rw [HR.out]; rfl, rfl⟩
  have q304 : (n == 304) = false := by simp [h304]
  have HR : Hid (R = _) := HR.out.trans (if_neg h304)
  by_cases h307 : n = 307
  · subst h307
    go_wp2
    go_ret
    exact ⟨by rw [HR.out]; rfl, rfl⟩
  have q307 : (n == 307) = false := by simp [h307]
  have HR : Hid (R = _) := HR.out.trans (if_neg h307)
  by_cases h308 : n = 308
  · subst h308
    go_wp2
    go_ret
    exact ⟨by rw [HR.out]; rfl, rfl⟩
  have q308 : (n == 308) = false := by simp [h308]
  have HR : Hid (R = _) := HR.out.trans (if_neg h308)
  by_cases h500 : n = 500
  · subst h500
    go_wp2
    go_ret
    exact ⟨by rw [HR.out]; rfl, rfl⟩
  have q500 : (n == 500) = false := by simp [h500]
  have HR : Hid (R = _) := HR.out.trans (if_neg h500)
  by_cases h501 : n = 501
  · subst h501
    go_wp2
    go_ret
    exact ⟨by rw [HR.out]; rfl, rfl⟩
  have q501 : (n == 501) = false := by simp [h501]
  have HR : Hid (R = _) := HR.out.trans (if_neg h501)
  by_cases h502 : n = 502
  · subst h502
    go_wp2
    go_ret
    exact ⟨by rw [HR.out]; rfl, rfl⟩
  have q502 : (n == 502) = false := by simp [h502]
  have HR : Hid (R = _) := HR.out.trans (if_neg h502)
  by_cases h503 : n = 503
  · subst h503
    go_wp2
    go_ret
    exact ⟨by rw [HR.out]; rfl, rfl⟩
  have q503 : (n == 503) = false := by simp [h503]
  have HR : Hid (R = _) := HR.out.trans (if_neg h503)
  by_cases h504 : n = 504
  · subst h504
    go_wp2
    go_ret
    exact ⟨by rw [HR.out]; rfl, rfl⟩
  have q504 : (n == 504) = false := by simp [h504]
  have HR : Hid (R = _) := HR.out.trans (if_neg h504)
  by_cases h505 : n = 505
  · subst h505
    go_wp2
    go_ret
    exact ⟨by rw [HR.out]; rfl, rfl⟩
  have q505 : (n == 505) = false := by simp [h505]
  have HR : Hid (R = _) := HR.out.trans (if_neg h505)
  have HC : Hid (∀ W, Calls _ _ _ W _) := fun W => clientsReason_any n W
  go_wp2_with fail
  refine (HC.out _).mono ?_
  rintro e w' ⟨rfl, hw⟩
  rw [hw]
  go_wp2
  go_ret
  exact ⟨by rw [HR.out]; rfl, rfl⟩
end Ms
end Go.Proofs.YtdcfhnbagldilaaGreatDoor
