/- WALK of the law ScalarOrder, by contracts. -/
import Derived.Test.YtkmbhjcedkojjaaZda
import Derived.Test.YtkmbhjcedkojjaaZdb
import Derived.Test.YtkmbhjcedkojjaaZdc
import Derived.Test.YtkmbhjcedkojjaaZdd
import Derived.Test.YtkmbhjcedkojjaaZde
namespace Go.Proofs.Ytkmbhjcedkojjaa
open Go.RowKit
theorem sorder_gen (k1 lo1 hi1 : Int) (s1 : ByteArray) (y1 m1 : Bool) (f1 : Option Addr) (fc1 : Nat) (k2 lo2 hi2 : Int) (s2 : ByteArray) (y2 m2 : Bool) (f2 : Option Addr) (fc2 : Nat) (k3 lo3 hi3 : Int) (s3 : ByteArray) (y3 m3 : Bool) (f3 : Option Addr) (fc3 : Nat) (xk xl xh : Int) (xs : ByteArray) (xy xm : Bool) (yk yl yh : Int) (ys : ByteArray) (yy ym : Bool) (pk pl ph : Int) (ps : ByteArray) (py pm : Bool) (qk ql qh : Int) (qs : ByteArray) (qy qm : Bool) (rk rl rh : Int) (rs : ByteArray) (ry rm : Bool) (jk jl jh : Int) (js : ByteArray) (jy jm : Bool) (ok isb one two all g hx ha hb : Bool) (w : World)
    (HA : (∀ W, Hid (Calls Try.prog 11 #[] W fun e w' => e = .returned (.bool true) ∧ Below W.heap.size W w')))
    (Mab : (∀ W, Hid (Calls Try.prog 24 #[tv k1 lo1 hi1 s1 y1 m1 false f1 0 fc1, tv k2 lo2 hi2 s2 y2 m2 false f2 0 fc2] W fun e w' => e = .returned (.tuple #[tv xk xl xh xs xy xm false none 0 0, .bool ok]) ∧ Below W.heap.size W w')))
    (Mba : (∀ W, Hid (Calls Try.prog 24 #[tv k2 lo2 hi2 s2 y2 m2 false f2 0 fc2, tv k1 lo1 hi1 s1 y1 m1 false f1 0 fc1] W fun e w' => e = .returned (.tuple #[tv yk yl yh ys yy ym false none 0 0, .bool isb]) ∧ Below W.heap.size W w')))
    (Mxc : (∀ W, Hid (Calls Try.prog 24 #[tv xk xl xh xs xy xm false none 0 0, tv k3 lo3 hi3 s3 y3 m3 false f3 0 fc3] W fun e w' => e = .returned (.tuple #[tv pk pl ph ps py pm false none 0 0, .bool one]) ∧ Below W.heap.size W w')))
    (Mbc : (∀ W, Hid (Calls Try.prog 24 #[tv k2 lo2 hi2 s2 y2 m2 false f2 0 fc2, tv k3 lo3 hi3 s3 y3 m3 false f3 0 fc3] W fun e w' => e = .returned (.tuple #[tv qk ql qh qs qy qm false none 0 0, .bool two]) ∧ Below W.heap.size W w')))
    (Maq : (∀ W, Hid (Calls Try.prog 24 #[tv k1 lo1 hi1 s1 y1 m1 false f1 0 fc1, tv qk ql qh qs qy qm false none 0 0] W fun e w' => e = .returned (.tuple #[tv rk rl rh rs ry rm false none 0 0, .bool all]) ∧ Below W.heap.size W w')))
    (Maa : (∀ W, Hid (Calls Try.prog 24 #[tv k1 lo1 hi1 s1 y1 m1 false f1 0 fc1, tv k1 lo1 hi1 s1 y1 m1 false f1 0 fc1] W fun e w' => e = .returned (.tuple #[tv jk jl jh js jy jm false none 0 0, .bool true]) ∧ Below W.heap.size W w')))
    (Like : (∀ W, Hid (Calls Try.prog 21 #[tv xk xl xh xs xy xm false none 0 0, .bool ok, tv yk yl yh ys yy ym false none 0 0, .bool isb] W fun e w' => e = .returned (.bool true) ∧ Below W.heap.size W w')))
    (Sia : (∀ W, Hid (Calls Try.prog 17 #[tv jk jl jh js jy jm false none 0 0, tv k1 lo1 hi1 s1 y1 m1 false f1 0 fc1] W fun e w' => e = .returned (.bool true) ∧ Below W.heap.size W w')))
    (Spr : Hid (ok = true → one = true → (∀ W, Hid (Calls Try.prog 17 #[tv pk pl ph ps py pm false none 0 0, tv rk rl rh rs ry rm false none 0 0] W fun e w' => e = .returned (.bool true) ∧ Below W.heap.size W w'))))
    (Bxa : Hid (ok = true → (∀ W, Hid (Calls Try.prog 26 #[tv xk xl xh xs xy xm false none 0 0, tv k1 lo1 hi1 s1 y1 m1 false f1 0 fc1] W fun e w' => e = .returned (.bool true) ∧ Below W.heap.size W w'))))
    (Bxb : Hid (ok = true → (∀ W, Hid (Calls Try.prog 26 #[tv xk xl xh xs xy xm false none 0 0, tv k2 lo2 hi2 s2 y2 m2 false f2 0 fc2] W fun e w' => e = .returned (.bool true) ∧ Below W.heap.size W w'))))
    (Gc : (∀ W, Hid (Calls Try.prog 15 #[tv k3 lo3 hi3 s3 y3 m3 false f3 0 fc3] W fun e w' => e = .returned (.bool g) ∧ Below W.heap.size W w')))
    (Hxc : (∀ W, Hid (Calls Try.prog 28 #[tv xk xl xh xs xy xm false none 0 0, tv k3 lo3 hi3 s3 y3 m3 false f3 0 fc3] W fun e w' => e = .returned (.bool hx) ∧ Below W.heap.size W w')))
    (Hac : (∀ W, Hid (Calls Try.prog 28 #[tv k1 lo1 hi1 s1 y1 m1 false f1 0 fc1, tv k3 lo3 hi3 s3 y3 m3 false f3 0 fc3] W fun e w' => e = .returned (.bool ha) ∧ Below W.heap.size W w')))
    (Hbc : (∀ W, Hid (Calls Try.prog 28 #[tv k2 lo2 hi2 s2 y2 m2 false f2 0 fc2, tv k3 lo3 hi3 s3 y3 m3 false f3 0 fc3] W fun e w' => e = .returned (.bool hb) ∧ Below W.heap.size W w')))
    (e1 : (ok && one) = (two && all)) (e2 : g = true → (ok && hx) = (ha && hb))
    (hs1 : shortB s1 0 = true) (hs2 : shortB s2 0 = true) (hs3 : shortB s3 0 = true)
    (r1 : rightB k1 lo1 hi1 s1 y1 m1 false 0 = true) (r2 : rightB k2 lo2 hi2 s2 y2 m2 false 0 = true) (r3 : rightB k3 lo3 hi3 s3 y3 m3 false 0 = true) :
    Calls Try.prog 6 #[tv k1 lo1 hi1 s1 y1 m1 false f1 0 fc1, tv k2 lo2 hi2 s2 y2 m2 false f2 0 fc2, tv k3 lo3 hi3 s3 y3 m3 false f3 0 fc3] w fun e w' => e = .returned (.bool true) ∧ Below w.heap.size w w' := by
  cases hok : ok
  · cases htwo : two
    · exact sorder_a k1 lo1 hi1 s1 y1 m1 f1 fc1 k2 lo2 hi2 s2 y2 m2 f2 fc2 k3 lo3 hi3 s3 y3 m3 f3 fc3 xk xl xh xs xy xm yk yl yh ys yy ym pk pl ph ps py pm qk ql qh qs qy qm rk rl rh rs ry rm jk jl jh js jy jm ok isb one two all g hx ha hb w HA Mab Mba Mxc Mbc Maq Maa Like Sia Spr Bxa Bxb Gc Hxc Hac Hbc hok htwo e1 e2 hs1 hs2 hs3 r1 r2 r3
    · cases hall : all
      · exact sorder_b k1 lo1 hi1 s1 y1 m1 f1 fc1 k2 lo2 hi2 s2 y2 m2 f2 fc2 k3 lo3 hi3 s3 y3 m3 f3 fc3 xk xl xh xs xy xm yk yl yh ys yy ym pk pl ph ps py pm qk ql qh qs qy qm rk rl rh rs ry rm jk jl jh js jy jm ok isb one two all g hx ha hb w HA Mab Mba Mxc Mbc Maq Maa Like Sia Spr Bxa Bxb Gc Hxc Hac Hbc hok htwo hall e1 e2 hs1 hs2 hs3 r1 r2 r3
      · rw [hok, htwo, hall] at e1; simp at e1
  · cases hone : one
    · cases htwo : two
      · exact sorder_c k1 lo1 hi1 s1 y1 m1 f1 fc1 k2 lo2 hi2 s2 y2 m2 f2 fc2 k3 lo3 hi3 s3 y3 m3 f3 fc3 xk xl xh xs xy xm yk yl yh ys yy ym pk pl ph ps py pm qk ql qh qs qy qm rk rl rh rs ry rm jk jl jh js jy jm ok isb one two all g hx ha hb w HA Mab Mba Mxc Mbc Maq Maa Like Sia Spr Bxa Bxb Gc Hxc Hac Hbc hok hone htwo e1 e2 hs1 hs2 hs3 r1 r2 r3
      · cases hall : all
        · exact sorder_d k1 lo1 hi1 s1 y1 m1 f1 fc1 k2 lo2 hi2 s2 y2 m2 f2 fc2 k3 lo3 hi3 s3 y3 m3 f3 fc3 xk xl xh xs xy xm yk yl yh ys yy ym pk pl ph ps py pm qk ql qh qs qy qm rk rl rh rs ry rm jk jl jh js jy jm ok isb one two all g hx ha hb w HA Mab Mba Mxc Mbc Maq Maa Like Sia Spr Bxa Bxb Gc Hxc Hac Hbc hok hone htwo hall e1 e2 hs1 hs2 hs3 r1 r2 r3
        · rw [hok, hone, htwo, hall] at e1; simp at e1
    · cases htwo : two
      · rw [hok, hone, htwo] at e1; simp at e1
      · cases hall : all
        · rw [hok, hone, htwo, hall] at e1; simp at e1
        · exact sorder_e k1 lo1 hi1 s1 y1 m1 f1 fc1 k2 lo2 hi2 s2 y2 m2 f2 fc2 k3 lo3 hi3 s3 y3 m3 f3 fc3 xk xl xh xs xy xm yk yl yh ys yy ym pk pl ph ps py pm qk ql qh qs qy qm rk rl rh rs ry rm jk jl jh js jy jm ok isb one two all g hx ha hb w HA Mab Mba Mxc Mbc Maq Maa Like Sia Spr Bxa Bxb Gc Hxc Hac Hbc hok hone htwo hall e1 e2 hs1 hs2 hs3 r1 r2 r3

end Go.Proofs.Ytkmbhjcedkojjaa
