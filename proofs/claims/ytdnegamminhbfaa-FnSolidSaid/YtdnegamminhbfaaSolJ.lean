/- Contracts of the program's functions of chapter 8: numbers, faces, names of corners. -/
import Derived.Test.YtdnegamminhbfaaSolI
namespace Go.Proofs.Ytdnegamminhbfaa
open Go.RowKit Go.Sort

set_option maxRecDepth 100000 in
set_option maxHeartbeats 4000000 in
theorem number_any (xs : List Int) (w : World) (hs : Sol xs) :
    Calls Try.prog 98 #[solV xs] w fun e w' => e = .returned (.int .i64 (numL xs)) ∧ Below w.heap.size w w' := by
  obtain ⟨x0, x1, x2, x3, x4, x5, rfl, h0, h1, h2, h3, h4, h5⟩ := hs
  obtain ⟨c0, c1, c2, c3, c4, c5, _⟩ := (SolAt.new w [x0, x1, x2, x3, x4, x5]).cells
  have hbl := below_alloc (Below.refl w.heap.size w) (solO [x0, x1, x2, x3, x4, x5])
  have e0 : numL [x0, x1, x2, x3, x4, x5] = numQ (x0 * x0) (x1 * x1) (x2 * x2) (x3 * x3) (x4 * x4) (x5 * x5) := rfl
  obtain ⟨p, hp⟩ : ∃ p, x0 * x0 = p := ⟨_, rfl⟩
  obtain ⟨q, hq⟩ : ∃ p, x1 * x1 = p := ⟨_, rfl⟩
  obtain ⟨r, hr⟩ : ∃ p, x2 * x2 = p := ⟨_, rfl⟩
  obtain ⟨a, ha⟩ : ∃ p, x3 * x3 = p := ⟨_, rfl⟩
  obtain ⟨b, hb⟩ : ∃ p, x4 * x4 = p := ⟨_, rfl⟩
  obtain ⟨d, hd⟩ : ∃ p, x5 * x5 = p := ⟨_, rfl⟩
  have b0 := sq_bd h0
  have b1 := sq_bd h1
  have b2 := sq_bd h2
  have b3 := sq_bd h3
  have b4 := sq_bd h4
  have b5 := sq_bd h5
  rw [e0]
  rw [hp] at b0
  rw [hq] at b1
  rw [hr] at b2
  rw [ha] at b3
  rw [hb] at b4
  rw [hd] at b5
  rw [hp, hq, hr, ha, hb, hd]
  have u0 : IntKind.i64.wrap (x0 * x0) = p := wrap_is hp (by omega) (by omega)
  have u1 : IntKind.i64.wrap (x1 * x1) = q := wrap_is hq (by omega) (by omega)
  have u2 : IntKind.i64.wrap (x2 * x2) = r := wrap_is hr (by omega) (by omega)
  have u3 : IntKind.i64.wrap (x3 * x3) = a := wrap_is ha (by omega) (by omega)
  have u4 : IntKind.i64.wrap (x4 * x4) = b := wrap_is hb (by omega) (by omega)
  have u5 : IntKind.i64.wrap (x5 * x5) = d := wrap_is hd (by omega) (by omega)
  obtain ⟨⟨v1, v2, v3, v4, v5, v6⟩, K⟩ := num_wraps b0 b1 b2 b3 b4 b5
  obtain ⟨s, hs⟩ : ∃ s, s = p + q - a := ⟨_, rfl⟩
  obtain ⟨t, ht⟩ : ∃ s, s = p + r - b := ⟨_, rfl⟩
  obtain ⟨u, hu⟩ : ∃ s, s = q + r - d := ⟨_, rfl⟩
  obtain ⟨⟨w1, w2, w3, w4, w5, w6, w7, w8, w9, w10, w11, w12, w13, w14, w15⟩, _, _⟩ := K s t u hs ht hu
  obtain ⟨z, hz⟩ : ∃ z, z = numQ p q r a b d := ⟨_, rfl⟩
  rw [← hz]
  have HZ := Lib.hid (show 4 * p * q * r + s * t * u - p * u * u - q * t * t - r * s * s = z by rw [hz, hs, ht, hu]; rfl)
  replace v2 := v2.trans hs.symm
  replace v4 := v4.trans ht.symm
  replace v6 := v6.trans hu.symm
  clear h0 h1 h2 h3 h4 h5 e0 hp hq hr ha hb hd hz hs ht hu b0 b1 b2 b3 b4 b5 K
  go_enter Try.func98, Try.ntmps98
  go_wp2_with fail
  go_quiet (fail)
  go_wp2_with fail
  go_quiet (fail)
  go_wp2_with fail
  go_ret
  exact ⟨ret_i HZ.out, below_drewN hbl _⟩
end Go.Proofs.Ytdnegamminhbfaa
