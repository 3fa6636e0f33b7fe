/-
  THE WALK of the law 'chirographkeep.LexPlace'.
  CONDITIONS: what 'Env' and 'SEnv' say.
-/
import Derived.Test.YtlhoakpijfhljaaGreatDoorBackG
import Derived.Test.YtlhoakpijfhljaaGreatDoorLawX4
namespace Go.Proofs.YtlhoakpijfhljaaGreatDoor
open Go.RowKit
set_option linter.unusedVariables false
set_option maxRecDepth 100000

theorem odd_63 (x : List UInt8) : firstR (63 :: x) = .err 3 := rfl
theorem odd_48 : firstR [48, 48, 55, 32] = .err 3 := rfl
theorem odd_39 : firstR [39, 97, 98, 99] = .err 4 := by
  show quoteR [39, 97, 98, 99] = .err 4
  unfold quoteR
  simp [scanQ]
theorem odd_35 : firstR [35, 49, 50] = .err 4 := rfl
theorem odd_255 (x : List UInt8) : firstR (255 :: x) = .err 3 := rfl
set_option maxHeartbeats 8000000 in
theorem lexPlace_walk (l : List R) (ao : Option Addr) (cap : Nat) (q : Int) (s : ByteArray) (w : World) (hE : Env w) (hSE : SEnv w) (hcap : l.length ≤ cap) (hc : cap ≤ 9223372036854775807) (hR : Raws w ao l) (q0 : -9223372036854775808 ≤ q) (q1 : q ≤ 9223372036854775807) (hs : s.size ≤ 9223372036854775807) :
    Calls Tryz.prog 5 #[.slice ao l.length cap, .int .i64 q, .string s] w fun e w' => e = .returned (.bool true) ∧ Below w.heap.size w w' := by
  have c1 := tokensOf_any l ao cap 5 5 rfl w (by decide) hR hcap (by omega)
  have c2 := fun w => picked_any q 5 w (by decide) (by decide) q0 q1
  have c3 := fun w => cleanTo_any s 40 40 rfl (by decide) w
  have hq : q % 5 = 0 ∨ q % 5 = 1 ∨ q % 5 = 2 ∨ q % 5 = 3 ∨ q % 5 = 4 := by omega
  generalize q % 5 = k at *
  have HE := Lib.hid hE
  have HSE := Lib.hid hSE
  generalize l.length = n at *
  clear hE hSE hR
  go_enter Tryz.func5, Tryz.ntmps5
  go_wp2_with fail
  refine c1.mono ?_
  rintro e w1 ⟨v, ts, rfl, ho, HG, h6, hb1⟩
  clear c1
  obtain ⟨a1, cap1, rfl, g1, g2, ht⟩ := ho.toks
  obtain ⟨hsh, _, _⟩ := goods_show HG.out (by omega)
  have h300 := textT_42 ts HG.out
  have cS := show_any ts a1 cap1 w1 (HSE.out.keep hb1) (fun t h => (HG.out t h).1) (by omega) ht
  rw [hsh] at cS
  unfold ShowPost at cS
  have hsz := str_size (textT ts)
  have cC := fun (x : List UInt8) W (hW : Below w.heap.size w W) (hx : x.length ≤ 41) => cut_any (textT ts ++ 32 :: x) W (by simp; omega) (HE.out.keep hW)
  unfold CutPost at cC
  have hodd := fun (c : UInt8) (odd : List UInt8) (e : Int) (h : (c :: odd).length ≤ 41) => cut_odd ts c odd e (fun t ht => ⟨(HG.out t ht).1, (HG.out t ht).2.1⟩) (by omega) (by simp at h; simp; omega)
  have hstr : ∀ x : List UInt8, str (textT ts) ++ ⟨#[32]⟩ ++ str x = str (textT ts ++ 32 :: x) := fun x => by
    have : textT ts ++ 32 :: x = (textT ts ++ [32]) ++ x := by simp
    rw [this, ← str_append, ← str_append]; rfl
  have HB1 := Lib.hid hb1
  obtain ⟨M, hM⟩ : ∃ M, ts.length = M := ⟨_, rfl⟩
  rw [hM] at cS g1 h6 h300
  simp only [hM]
  clear ho hsh ht hb1 hM HSE
  go_wp2_with fail
  refine cS.mono ?_
  rintro e w2 ⟨u, f, rfl, hsh, hb2⟩
  obtain ⟨rfl, rfl⟩ := hsh.out
  clear cS hsh
  obtain ⟨N, hN⟩ : ∃ N, (textT ts).length = N := ⟨_, rfl⟩
  rw [hN] at hsz hodd h300
  obtain ⟨S, hS⟩ : ∃ S, str (textT ts) = S := ⟨_, rfl⟩
  rw [hS] at hsz hstr ⊢
  have hszI : (S.size : Int) = (N : Int) := by omega
  have hs2 : S.size ≤ 300 := by omega
  have hbw2 : Below w.heap.size w w2 := below_stepL HB1.out HB1.out.size hb2
  have CC := Lib.hid cC
  have HO := Lib.hid hodd
  have HSTR := Lib.hid hstr
  have HBW := Lib.hid hbw2
  clear hN hS hsz cC hodd hstr hb2 HB1 HG h300
  rcases hq with rfl | rfl | rfl | rfl | rfl
  · go_wp2_with fail
    refine (c2 _).mono ?_
    rintro e w3 ⟨rfl, rfl⟩
    clear c2
    go_wp2_with fail
    refine (c3 _).mono ?_
    rintro e w4 ⟨t, rs, rfl, hrs, ht40, hb4⟩
    have hbw4 : Below w.heap.size w w4 := ((HBW.out.alloc HBW.out.size _).alloc (by have := HBW.out.size; simp; omega) _).trans (hb4.mono (by have := HBW.out.size; simp; omega))
    obtain ⟨x, hx⟩ : ∃ x, t = str x := ⟨_, str_eq t⟩
    subst hx
    have hxl : x.length ≤ 40 := by rw [str_size] at ht40; exact ht40
    have c5 := CC.out (63 :: x) w4 hbw4 (by simp; omega)
    have he := HO.out 63 x 3 (by simp; omega) (by decide) (by decide) (odd_63 x)
    rw [he] at c5
    have hz : S ++ ⟨#[32]⟩ ++ (⟨#[63]⟩ ++ str x) = str (textT ts ++ 32 :: 63 :: x) := by
      rw [← HSTR.out]
      have : str (63 :: x) = ⟨#[63]⟩ ++ str x := by rw [show (63 :: x) = [63] ++ x from rfl, ← str_append]; rfl
      rw [this]
    generalize str (textT ts ++ 32 :: 63 :: x) = Z at *
    generalize str x = X at *
    clear c3 he hrs hb4 hxl CC HO HSTR HE
    go_wp2_with fail
    refine c5.mono ?_
    rintro e w5 ⟨a5, n5, k5, p5, c6, rfl, h5, hb5⟩
    obtain ⟨hv, rfl, rfl, hc0⟩ := h5.out
    cases hv
    have hbb : Below w.heap.size w w5 := below_stepL hbw4 hbw4.size hb5
    clear c5 h5 hb5 hbw4 hz
    go_wp2_with fail
    go_ret
    exact ⟨by first | rfl | trivial, hbb⟩
  · go_wp2_with fail
    refine (c2 _).mono ?_
    rintro e w3 ⟨rfl, rfl⟩
    clear c2
    have c5 := fun W (hW : Below w.heap.size w W) => CC.out [48, 48, 55, 32] W hW (by decide)
    have he := HO.out 48 [48, 55, 32] 3 (by decide) (by decide) (by decide) odd_48
    rw [he] at c5
    have hz : S ++ ⟨#[32]⟩ ++ ⟨#[48, 48, 55, 32]⟩ = str (textT ts ++ 32 :: [48, 48, 55, 32]) := by rw [← HSTR.out]; rfl
    generalize str (textT ts ++ 32 :: [48, 48, 55, 32]) = Z at *
    clear c3 he CC HO HSTR HE
    go_wp2_with fail
    refine (c5 _ ((HBW.out.alloc HBW.out.size _).alloc (by have := HBW.out.size; simp; omega) _)).mono ?_
    rintro e w5 ⟨a5, n5, k5, p5, c6, rfl, h5, hb5⟩
    obtain ⟨hv, rfl, rfl, hc0⟩ := h5.out
    cases hv
    have hbb : Below w.heap.size w w5 := ((HBW.out.alloc HBW.out.size _).alloc (by have := HBW.out.size; simp; omega) _).trans (hb5.mono (by have := HBW.out.size; simp; omega))
    clear c5 h5 hb5 hz
    go_wp2_with fail
    go_ret
    exact ⟨by first | rfl | trivial, hbb⟩
  · go_wp2_with fail
    refine (c2 _).mono ?_
    rintro e w3 ⟨rfl, rfl⟩
    clear c2
    have c5 := fun W (hW : Below w.heap.size w W) => CC.out [39, 97, 98, 99] W hW (by decide)
    have he := HO.out 39 [97, 98, 99] 4 (by decide) (by decide) (by decide) odd_39
    rw [he] at c5
    have hz : S ++ ⟨#[32]⟩ ++ ⟨#[39, 97, 98, 99]⟩ = str (textT ts ++ 32 :: [39, 97, 98, 99]) := by rw [← HSTR.out]; rfl
    generalize str (textT ts ++ 32 :: [39, 97, 98, 99]) = Z at *
    clear c3 he CC HO HSTR HE
    go_wp2_with fail
    refine (c5 _ ((HBW.out.alloc HBW.out.size _).alloc (by have := HBW.out.size; simp; omega) _)).mono ?_
    rintro e w5 ⟨a5, n5, k5, p5, c6, rfl, h5, hb5⟩
    obtain ⟨hv, rfl, rfl, hc0⟩ := h5.out
    cases hv
    have hbb : Below w.heap.size w w5 := ((HBW.out.alloc HBW.out.size _).alloc (by have := HBW.out.size; simp; omega) _).trans (hb5.mono (by have := HBW.out.size; simp; omega))
    clear c5 h5 hb5 hz
    go_wp2_with fail
    go_ret
    exact ⟨by first | rfl | trivial, hbb⟩
  · go_wp2_with fail
    refine (c2 _).mono ?_
    rintro e w3 ⟨rfl, rfl⟩
    clear c2
    have c5 := fun W (hW : Below w.heap.size w W) => CC.out [35, 49, 50] W hW (by decide)
    have he := HO.out 35 [49, 50] 4 (by decide) (by decide) (by decide) odd_35
    rw [he] at c5
    have hz : S ++ ⟨#[32]⟩ ++ ⟨#[35, 49, 50]⟩ = str (textT ts ++ 32 :: [35, 49, 50]) := by rw [← HSTR.out]; rfl
    generalize str (textT ts ++ 32 :: [35, 49, 50]) = Z at *
    clear c3 he CC HO HSTR HE
    go_wp2_with fail
    refine (c5 _ ((HBW.out.alloc HBW.out.size _).alloc (by have := HBW.out.size; simp; omega) _)).mono ?_
    rintro e w5 ⟨a5, n5, k5, p5, c6, rfl, h5, hb5⟩
    obtain ⟨hv, rfl, rfl, hc0⟩ := h5.out
    cases hv
    have hbb : Below w.heap.size w w5 := ((HBW.out.alloc HBW.out.size _).alloc (by have := HBW.out.size; simp; omega) _).trans (hb5.mono (by have := HBW.out.size; simp; omega))
    clear c5 h5 hb5 hz
    go_wp2_with fail
    go_ret
    exact ⟨by first | rfl | trivial, hbb⟩
  · go_wp2_with fail
    refine (c2 _).mono ?_
    rintro e w3 ⟨rfl, rfl⟩
    clear c2
    go_wp2_with fail
    refine (c3 _).mono ?_
    rintro e w4 ⟨t, rs, rfl, hrs, ht40, hb4⟩
    have hbw4 : Below w.heap.size w w4 := ((HBW.out.alloc HBW.out.size _).alloc (by have := HBW.out.size; simp; omega) _).trans (hb4.mono (by have := HBW.out.size; simp; omega))
    obtain ⟨x, hx⟩ : ∃ x, t = str x := ⟨_, str_eq t⟩
    subst hx
    have hxl : x.length ≤ 40 := by rw [str_size] at ht40; exact ht40
    have c5 := CC.out (255 :: x) w4 hbw4 (by simp; omega)
    have he := HO.out 255 x 3 (by simp; omega) (by decide) (by decide) (odd_255 x)
    rw [he] at c5
    have hz : S ++ ⟨#[32]⟩ ++ (⟨#[255]⟩ ++ str x) = str (textT ts ++ 32 :: 255 :: x) := by
      rw [← HSTR.out]
      have : str (255 :: x) = ⟨#[255]⟩ ++ str x := by rw [show (255 :: x) = [255] ++ x from rfl, ← str_append]; rfl
      rw [this]
    generalize str (textT ts ++ 32 :: 255 :: x) = Z at *
    generalize str x = X at *
    clear c3 he hrs hb4 hxl CC HO HSTR HE
    go_wp2_with fail
    refine c5.mono ?_
    rintro e w5 ⟨a5, n5, k5, p5, c6, rfl, h5, hb5⟩
    obtain ⟨hv, rfl, rfl, hc0⟩ := h5.out
    cases hv
    have hbb : Below w.heap.size w w5 := below_stepL hbw4 hbw4.size hb5
    clear c5 h5 hb5 hbw4 hz
    go_wp2_with fail
    go_ret
    exact ⟨by first | rfl | trivial, hbb⟩
end Go.Proofs.YtlhoakpijfhljaaGreatDoor
