/- LexRound. (Stage 15.) -/
import Derived.Test.YtphkdagapoonjaaDoorLPX
namespace Go.Proofs.YtphkdagapoonjaaDoor.Lx
open Go.RowKit
open Go.Proofs.YtphkdagapoonjaaDoor.F (bn bn_length bn_append bn_inj bn_get byte_bd hid bn_extract isEmpty_false isEmpty_true str_eq same_eq)
open Go.Proofs.YtphkdagapoonjaaDoor.U (nx enc encs scal val Bytes)
set_option linter.unusedVariables false

theorem Brf.sml {l : List Tb} (h : Brf l) (hk : ∀ t ∈ l, t.k ≤ 255) : Sml l := fun t ht => ⟨hk t ht, Nat.le_trans (h.2 t ht) (by decide)⟩
set_option maxRecDepth 100000 in
set_option maxHeartbeats 16000000 in
theorem round_any (a : Option Addr) (n c : Nat) (l : List Tb) (s : ByteArray) (w : World) (hat : TokAt w (.slice a n c) l) (hn : n ≤ maxLen) (hx : ∀ t ∈ l, t.x.size ≤ 140737488351232) (hk : ∀ t ∈ l, t.k ≤ 255) (hsz : s.size ≤ maxLen) (G : Gl w) :
    Calls Tryd.prog 3 #[.slice a n c, .string s] w fun e w' => e = .returned (.bool true) ∧ Below w.heap.size w w' := by
  obtain rfl := hat.len
  have hsz2 : s.size ≤ 9223372036854775807 := hsz
  have HG := hid (fun W (h : Below w.heap.size w W) => G.below h)
  have HAL := hid (fun W (h : Below w.heap.size w W) => alive_any W (G.below h))
  have HL := hid (fun W (h : Below w.heap.size w W) (hs : s.size ≤ 4096) => lex_any s (by omega) W (G.below h))
  have HA := hid hat
  have HK := hid hk
  have H0 := hid (long_any a _ c l w hat hn hx)
  clear hat hx hk G
  go_enter Tryd.func3, Tryd.ntmps3
  go_wp2_with fail
  refine H0.out.mono ?_
  rintro e w1 ⟨hq, B1⟩
  have HB1 := hid B1
  clear H0 B1
  rcases hq with rfl | ⟨rfl, hbrf⟩
  · have H1 := hid (HAL.out w1 HB1.out)
    go_wp2_with fail
    refine H1.out.mono ?_
    rintro e w2 ⟨rfl, B2⟩
    have HE := hid (HB1.out.trans (B2.mono HB1.out.size))
    clear H1 B2 HB1 HA HK HG HAL HL
    go_wp2
    go_ret
    exact ⟨rfl, HE.out⟩
  by_cases hs4 : s.size ≤ 4096
  rotate_left
  · have hsg : (4096 : Int) < (s.size : Int) := by omega
    have H1 := hid (HAL.out w1 HB1.out)
    go_wp2_with fail
    refine H1.out.mono ?_
    rintro e w2 ⟨rfl, B2⟩
    have HE := hid (HB1.out.trans (B2.mono HB1.out.size))
    clear H1 B2 HB1 HA HK HG HAL HL
    go_wp2
    go_ret
    exact ⟨rfl, HE.out⟩
  have hsg : ¬ (4096 : Int) < (s.size : Int) := by omega
  have hll : l.length ≤ 2048 := hbrf.1
  have H2 := hid (write_any a _ c l w1 (HA.out.below HB1.out) (by omega) (hbrf.sml HK.out) (HG.out w1 HB1.out))
  clear hbrf
  go_wp2_with fail
  refine H2.out.mono ?_
  rintro e w2 ⟨hq, B2⟩
  have HC := hid (HB1.out.trans (B2.mono HB1.out.size))
  clear H2 B2 HB1
  rcases wrt_two hq with ⟨_, ev, hev, rfl⟩ | ⟨hok, hwl, u, hu, rfl⟩
  · have hev2 : (ev == 0) = false := by simp [hev]
    have hev3 : (ev != 0) = true := by simp [hev]
    clear hq HK HA
    have H6 := hid (HL.out w2 HC.out hs4)
    go_wp2_with fail
    refine H6.out.mono ?_
    rintro e w6 ⟨hq, B6⟩
    have HB6 : Hid (Below w.heap.size w w6) := HC.out.trans (B6.mono HC.out.size)
    clear H6 B6 HC HL
    by_cases h0 : (lex (bn s)).2.1 = 0
    rotate_left
    · obtain ⟨a6, c6, f0, f1, f2, hf0, rfl⟩ := ln_bad hq h0
      have hf1 : (f0 != 0) = true := by simp [hf0]
      have HB7 : Hid (Below w.heap.size w (w6.alloc (.cells #[.int .i64 f0, .int .i64 f1, .int .i64 f2] 29))) := HB6.out.alloc HB6.out.size _
      have hc6 : (w6.alloc (.cells #[.int .i64 f0, .int .i64 f1, .int .i64 f2] 29)).cell? ⟨w6.heap.size, 0, none⟩ = some (.int .i64 f0) := World.cell?_alloc_new w6 _ _ 0
      have H7 := hid (HAL.out _ HB7.out)
      clear hq h0 HAL HG HB6
      go_wp2_with fail
      refine H7.out.mono ?_
      rintro e w7 ⟨rfl, B7⟩
      have HE := hid (HB7.out.trans (B7.mono HB7.out.size))
      clear H7 B7 HB7
      go_wp2
      go_ret
      exact ⟨rfl, HE.out⟩
    obtain ⟨a6, c6, ts6, rfl, hat6, hok6, hl6, hsm6, hln6, _, _⟩ := ln_good hq h0 (by omega)
    have HT6 := hid hat6
    have HK6 := hid hok6
    have hw6 : (wr 5 (ts6.map Tb.tk)).length ≤ 65536 := by omega
    have HB7 : Hid (Below w.heap.size w (w6.alloc (.cells #[.int .i64 0, .int .i64 0, .int .i64 0] 29))) := HB6.out.alloc HB6.out.size _
    have HO7 : Hid (Below w6.heap.size w6 (w6.alloc (.cells #[.int .i64 0, .int .i64 0, .int .i64 0] 29))) := (Below.refl _ _).alloc (Nat.le_refl _) _
    have hc6 : (w6.alloc (.cells #[.int .i64 0, .int .i64 0, .int .i64 0] 29)).cell? ⟨w6.heap.size, 0, none⟩ = some (.int .i64 0) := World.cell?_alloc_new w6 _ _ 0
    have H7 := hid (write_any a6 ts6.length c6 ts6 (w6.alloc (.cells #[.int .i64 0, .int .i64 0, .int .i64 0] 29)) (hat6.below HO7.out) (by omega) hsm6 (HG.out _ HB7.out))
    clear hq h0 hat6 hok6 hsm6
    go_wp2_with fail
    refine H7.out.mono ?_
    rintro e w7 ⟨hq, B7⟩
    obtain ⟨u7, hu7, rfl⟩ := wrt_read hq HK6.out hw6
    have HU7 := hid hu7
    have HB8 : Hid (Below w.heap.size w w7) := HB7.out.trans (B7.mono HB7.out.size)
    have HO8 : Hid (Below w6.heap.size w6 w7) := HO7.out.trans (B7.mono HO7.out.size)
    clear H7 hq hu7 B7 HO7 HB7 hc6 HB6
    have H8 := hid (lex_any u7 (Nat.le_trans (u_size HU7.out hw6) (by decide)) w7 (HG.out _ HB8.out))
    go_wp2_with fail
    refine H8.out.mono ?_
    rintro e w8 ⟨hq, B8⟩
    obtain ⟨a8, c8, ts8, rfl, hat8, hsm8, hln8⟩ := ln_back HU7.out HK6.out hw6 hq
    have HB9 : Hid (Below w.heap.size w w8) := HB8.out.trans (B8.mono HB8.out.size)
    have HO9 : Hid (Below w6.heap.size w6 w8) := HO8.out.trans (B8.mono HO8.out.size)
    have hlb8 : ts8.length ≤ 1000000 := by omega
    clear H8 hq B8 HO8 HB8 HU7 HK6 hln8
    have HBa : Hid (Below w.heap.size w (w8.alloc (.cells #[.int .i64 0, .int .i64 0, .int .i64 0] 29))) := HB9.out.alloc HB9.out.size _
    have HOa : Hid (Below w6.heap.size w6 (w8.alloc (.cells #[.int .i64 0, .int .i64 0, .int .i64 0] 29))) := HO9.out.alloc HO9.out.size _
    have HOb : Hid (Below w8.heap.size w8 (w8.alloc (.cells #[.int .i64 0, .int .i64 0, .int .i64 0] 29))) := (Below.refl _ _).alloc (Nat.le_refl _) _
    have hc8 : (w8.alloc (.cells #[.int .i64 0, .int .i64 0, .int .i64 0] 29)).cell? ⟨w8.heap.size, 0, none⟩ = some (.int .i64 0) := World.cell?_alloc_new w8 _ _ 0
    have H9 := hid (rsame_any a8 a6 ts8.length ts6.length c8 c6 ts8 ts6 true (w8.alloc (.cells #[.int .i64 0, .int .i64 0, .int .i64 0] 29)) (hat8.below HOb.out) (HT6.out.below HOa.out) (by omega) (by omega))
    rw [hsm8] at H9
    clear hat8 hsm8 HT6 HOa HOb HO9 HB9
    go_wp2_with fail
    refine H9.out.mono ?_
    rintro e w9 ⟨rfl, B9⟩
    have HBc : Hid (Below w.heap.size w w9) := HBa.out.trans (B9.mono HBa.out.size)
    clear H9 B9 HBa hc8
    have Ha := hid (HAL.out w9 HBc.out)
    go_wp2_with fail
    refine Ha.out.mono ?_
    rintro e wa ⟨rfl, Ba⟩
    have HE := hid (HBc.out.trans (Ba.mono HBc.out.size))
    clear Ha Ba HBc HAL HG
    go_wp2
    go_ret
    exact ⟨rfl, HE.out⟩
  · have HOK := hid hok
    have HU := hid hu
    have H3 := hid (lex_any u (Nat.le_trans (u_size hu hwl) (by decide)) w2 (HG.out w2 HC.out))
    clear hq hok hu
    go_wp2_with fail
    refine H3.out.mono ?_
    rintro e w3 ⟨hq, B3⟩
    obtain ⟨a3, c3, ts3, rfl, hat3, hsm, hlen3⟩ := ln_back HU.out HOK.out hwl hq
    have HB3 := hid (HC.out.trans (B3.mono HC.out.size))
    have hlb3 : ts3.length ≤ 2048 := by omega
    clear H3 B3 hq HU HOK HC hlen3
    have HB4 : Hid (Below w.heap.size w (w3.alloc (.cells #[.int .i64 0, .int .i64 0, .int .i64 0] 29))) := HB3.out.alloc HB3.out.size _
    have HO : Hid (Below w3.heap.size w3 (w3.alloc (.cells #[.int .i64 0, .int .i64 0, .int .i64 0] 29))) := (Below.refl _ _).alloc (Nat.le_refl _) _
    have hc0 : (w3.alloc (.cells #[.int .i64 0, .int .i64 0, .int .i64 0] 29)).cell? ⟨w3.heap.size, 0, none⟩ = some (.int .i64 0) := World.cell?_alloc_new w3 _ _ 0
    have H5 := hid (rsame_any a3 a ts3.length l.length c3 c ts3 l true (w3.alloc (.cells #[.int .i64 0, .int .i64 0, .int .i64 0] 29)) (hat3.below HO.out) (HA.out.below HB4.out) (by omega) (by omega))
    rw [hsm] at H5
    clear hat3 hsm HK HA
    go_wp2_with fail
    refine H5.out.mono ?_
    rintro e w2 ⟨rfl, B5⟩
    have HC : Hid (Below w.heap.size w w2) := HB4.out.trans (B5.mono HB4.out.size)
    clear H5 B5 HB4 HB3 HO hc0 hwl hlb3
    have H6 := hid (HL.out w2 HC.out hs4)
    go_wp2_with fail
    refine H6.out.mono ?_
    rintro e w6 ⟨hq, B6⟩
    have HB6 : Hid (Below w.heap.size w w6) := HC.out.trans (B6.mono HC.out.size)
    clear H6 B6 HC HL
    by_cases h0 : (lex (bn s)).2.1 = 0
    rotate_left
    · obtain ⟨a6, c6, f0, f1, f2, hf0, rfl⟩ := ln_bad hq h0
      have hf1 : (f0 != 0) = true := by simp [hf0]
      have HB7 : Hid (Below w.heap.size w (w6.alloc (.cells #[.int .i64 f0, .int .i64 f1, .int .i64 f2] 29))) := HB6.out.alloc HB6.out.size _
      have hc6 : (w6.alloc (.cells #[.int .i64 f0, .int .i64 f1, .int .i64 f2] 29)).cell? ⟨w6.heap.size, 0, none⟩ = some (.int .i64 f0) := World.cell?_alloc_new w6 _ _ 0
      have H7 := hid (HAL.out _ HB7.out)
      clear hq h0 HAL HG HB6
      go_wp2_with fail
      refine H7.out.mono ?_
      rintro e w7 ⟨rfl, B7⟩
      have HE := hid (HB7.out.trans (B7.mono HB7.out.size))
      clear H7 B7 HB7
      go_wp2
      go_ret
      exact ⟨rfl, HE.out⟩
    obtain ⟨a6, c6, ts6, rfl, hat6, hok6, hl6, hsm6, hln6, _, _⟩ := ln_good hq h0 (by omega)
    have HT6 := hid hat6
    have HK6 := hid hok6
    have hw6 : (wr 5 (ts6.map Tb.tk)).length ≤ 65536 := by omega
    have HB7 : Hid (Below w.heap.size w (w6.alloc (.cells #[.int .i64 0, .int .i64 0, .int .i64 0] 29))) := HB6.out.alloc HB6.out.size _
    have HO7 : Hid (Below w6.heap.size w6 (w6.alloc (.cells #[.int .i64 0, .int .i64 0, .int .i64 0] 29))) := (Below.refl _ _).alloc (Nat.le_refl _) _
    have hc6 : (w6.alloc (.cells #[.int .i64 0, .int .i64 0, .int .i64 0] 29)).cell? ⟨w6.heap.size, 0, none⟩ = some (.int .i64 0) := World.cell?_alloc_new w6 _ _ 0
    have H7 := hid (write_any a6 ts6.length c6 ts6 (w6.alloc (.cells #[.int .i64 0, .int .i64 0, .int .i64 0] 29)) (hat6.below HO7.out) (by omega) hsm6 (HG.out _ HB7.out))
    clear hq h0 hat6 hok6 hsm6
    go_wp2_with fail
    refine H7.out.mono ?_
    rintro e w7 ⟨hq, B7⟩
    obtain ⟨u7, hu7, rfl⟩ := wrt_read hq HK6.out hw6
    have HU7 := hid hu7
    have HB8 : Hid (Below w.heap.size w w7) := HB7.out.trans (B7.mono HB7.out.size)
    have HO8 : Hid (Below w6.heap.size w6 w7) := HO7.out.trans (B7.mono HO7.out.size)
    clear H7 hq hu7 B7 HO7 HB7 hc6 HB6
    have H8 := hid (lex_any u7 (Nat.le_trans (u_size HU7.out hw6) (by decide)) w7 (HG.out _ HB8.out))
    go_wp2_with fail
    refine H8.out.mono ?_
    rintro e w8 ⟨hq, B8⟩
    obtain ⟨a8, c8, ts8, rfl, hat8, hsm8, hln8⟩ := ln_back HU7.out HK6.out hw6 hq
    have HB9 : Hid (Below w.heap.size w w8) := HB8.out.trans (B8.mono HB8.out.size)
    have HO9 : Hid (Below w6.heap.size w6 w8) := HO8.out.trans (B8.mono HO8.out.size)
    have hlb8 : ts8.length ≤ 1000000 := by omega
    clear H8 hq B8 HO8 HB8 HU7 HK6 hln8
    have HBa : Hid (Below w.heap.size w (w8.alloc (.cells #[.int .i64 0, .int .i64 0, .int .i64 0] 29))) := HB9.out.alloc HB9.out.size _
    have HOa : Hid (Below w6.heap.size w6 (w8.alloc (.cells #[.int .i64 0, .int .i64 0, .int .i64 0] 29))) := HO9.out.alloc HO9.out.size _
    have HOb : Hid (Below w8.heap.size w8 (w8.alloc (.cells #[.int .i64 0, .int .i64 0, .int .i64 0] 29))) := (Below.refl _ _).alloc (Nat.le_refl _) _
    have hc8 : (w8.alloc (.cells #[.int .i64 0, .int .i64 0, .int .i64 0] 29)).cell? ⟨w8.heap.size, 0, none⟩ = some (.int .i64 0) := World.cell?_alloc_new w8 _ _ 0
    have H9 := hid (rsame_any a8 a6 ts8.length ts6.length c8 c6 ts8 ts6 true (w8.alloc (.cells #[.int .i64 0, .int .i64 0, .int .i64 0] 29)) (hat8.below HOb.out) (HT6.out.below HOa.out) (by omega) (by omega))
    rw [hsm8] at H9
    clear hat8 hsm8 HT6 HOa HOb HO9 HB9
    go_wp2_with fail
    refine H9.out.mono ?_
    rintro e w9 ⟨rfl, B9⟩
    have HBc : Hid (Below w.heap.size w w9) := HBa.out.trans (B9.mono HBa.out.size)
    clear H9 B9 HBa hc8
    have Ha := hid (HAL.out w9 HBc.out)
    go_wp2_with fail
    refine Ha.out.mono ?_
    rintro e wa ⟨rfl, Ba⟩
    have HE := hid (HBc.out.trans (Ba.mono HBc.out.size))
    clear Ha Ba HBc HAL HG
    go_wp2
    go_ret
    exact ⟨rfl, HE.out⟩
end Go.Proofs.YtphkdagapoonjaaDoor.Lx
