package gf

import (
	"math"
	"testing"

	"quickset/api"
)

// strangers: numbers that are no elements; bits behind the eighth must not be cut off to make one.
var strangers = []int{-1, -2, -255, -256, 256, 257, 511, 512, 1 << 32, 1<<32 + 5, math.MinInt64, math.MinInt64 + 7, math.MaxInt64}

// want: is what a call answered (its number and its error) as it should be?
func want(t *testing.T, what string, in []int, got int, code api.Errno, number int, errno api.Errno) {
	t.Helper()
	if got != number || code != errno {
		t.Errorf("%s%v: %d %d, want %d %d", what, in, got, code, number, errno)
	}
}

// longProduct: the product by the words of P1.2: all of it first, then what is left of a division, bit by bit from above.
func longProduct(a, b int) int {
	p := 0
	for i := 0; i < 8; i++ {
		for k := 0; k < 8; k++ {
			p ^= (a >> i & 1) * (b >> k & 1) << (i + k)
		}
	}
	for k := 14; k >= 8; k-- {
		if p>>k&1 == 1 {
			for _, term := range []int{8, 4, 3, 2, 0} {
				p ^= 1 << (k - 8 + term)
			}
		}
	}
	return p
}

// P1.1

func TestNoElementIsRefusedByCallsOfTwo(t *testing.T) {
	calls := map[string]func(a, b int) (int, api.Errno){"Add": Add, "Mul": Mul, "Div": Div}
	for name, call := range calls {
		for _, s := range strangers {
			for _, e := range []int{0, 1, 2, 255} {
				got, code := call(s, e)
				want(t, name, []int{s, e}, got, code, 0, api.ErrRange)
				got, code = call(e, s)
				want(t, name, []int{e, s}, got, code, 0, api.ErrRange)
			}
			for _, other := range strangers {
				got, code := call(s, other)
				want(t, name, []int{s, other}, got, code, 0, api.ErrRange)
			}
		}
	}
}

func TestNoElementIsRefusedByCallsOfOne(t *testing.T) {
	calls := map[string]func(a int) (int, api.Errno){"Inv": Inv, "Log": Log}
	for name, call := range calls {
		for _, s := range strangers {
			got, code := call(s)
			want(t, name, []int{s}, got, code, 0, api.ErrRange)
		}
	}
}

func TestNoElementIsRefusedByPow(t *testing.T) {
	for _, s := range strangers {
		for _, n := range []int{0, 1, 2, 255, math.MaxInt64, -1, math.MinInt64} {
			got, code := Pow(s, n)
			want(t, "Pow", []int{s, n}, got, code, 0, api.ErrRange)
		}
	}
}

func TestEveryElementIsTaken(t *testing.T) {
	for a := 0; a <= 255; a++ {
		got, code := Add(a, 0)
		want(t, "Add", []int{a, 0}, got, code, a, api.OK)
		got, code = Add(0, a)
		want(t, "Add", []int{0, a}, got, code, a, api.OK)
		got, code = Mul(a, 1)
		want(t, "Mul", []int{a, 1}, got, code, a, api.OK)
		got, code = Div(a, 1)
		want(t, "Div", []int{a, 1}, got, code, a, api.OK)
		got, code = Pow(a, 1)
		want(t, "Pow", []int{a, 1}, got, code, a, api.OK)
	}
}

// P1.2

func TestAddOfKnown(t *testing.T) {
	for _, c := range [][3]int{{200, 77, 133}, {0, 0, 0}, {0, 255, 255}, {255, 255, 0}, {1, 1, 0}, {1, 255, 254}, {128, 127, 255}, {3, 5, 6}} {
		got, code := Add(c[0], c[1])
		want(t, "Add", c[:2], got, code, c[2], api.OK)
	}
}

func TestAddBitByBit(t *testing.T) {
	for a := 0; a <= 255; a++ {
		for b := 0; b <= 255; b++ {
			sum := 0
			for k := 0; k < 8; k++ {
				if a>>k&1 != b>>k&1 {
					sum += 1 << k
				}
			}
			got, code := Add(a, b)
			want(t, "Add", []int{a, b}, got, code, sum, api.OK)
		}
	}
}

func TestMulOfKnown(t *testing.T) {
	known := [][3]int{
		{0, 0, 0}, {0, 255, 0}, {255, 0, 0}, {1, 255, 255}, {255, 1, 255}, {1, 1, 1},
		{3, 7, 9}, {2, 64, 128}, {15, 15, 85},
		{128, 2, 29}, {2, 128, 29}, {16, 16, 29}, {128, 128, 19}, {255, 2, 227}, {255, 255, 226},
	}
	for _, c := range known {
		got, code := Mul(c[0], c[1])
		want(t, "Mul", c[:2], got, code, c[2], api.OK)
	}
}

func TestMulAsDivided(t *testing.T) {
	for a := 0; a <= 255; a++ {
		for b := 0; b <= 255; b++ {
			got, code := Mul(a, b)
			want(t, "Mul", []int{a, b}, got, code, longProduct(a, b), api.OK)
		}
	}
}

// P1.3

func TestDivOfKnown(t *testing.T) {
	for _, c := range [][3]int{{1, 2, 142}, {29, 2, 128}, {9, 7, 3}, {0, 1, 0}, {0, 255, 0}, {255, 255, 1}, {255, 1, 255}} {
		got, code := Div(c[0], c[1])
		want(t, "Div", c[:2], got, code, c[2], api.OK)
	}
}

func TestDivIsUndoneByMul(t *testing.T) {
	for a := 0; a <= 255; a++ {
		for b := 1; b <= 255; b++ {
			d, code := Div(a, b)
			if code != api.OK {
				t.Fatalf("Div[%d %d]: %d", a, b, code)
			}
			got, code := Mul(d, b)
			want(t, "Div and Mul", []int{a, b}, got, code, a, api.OK)
		}
	}
}

func TestDivByZero(t *testing.T) {
	for a := 0; a <= 255; a++ {
		got, code := Div(a, 0)
		want(t, "Div", []int{a, 0}, got, code, 0, api.ErrZero)
	}
}

func TestInvOfKnown(t *testing.T) {
	for _, c := range [][2]int{{1, 1}, {2, 142}, {142, 2}, {3, 244}, {255, 253}} {
		got, code := Inv(c[0])
		want(t, "Inv", c[:1], got, code, c[1], api.OK)
	}
}

func TestInvIsUndoneByMul(t *testing.T) {
	for a := 1; a <= 255; a++ {
		i, code := Inv(a)
		if code != api.OK {
			t.Fatalf("Inv[%d]: %d", a, code)
		}
		got, code := Mul(a, i)
		want(t, "Inv and Mul", []int{a}, got, code, 1, api.OK)
	}
}

func TestInvOfZero(t *testing.T) {
	got, code := Inv(0)
	want(t, "Inv", []int{0}, got, code, 0, api.ErrZero)
}

// P1.4

func TestPowOfKnown(t *testing.T) {
	known := [][3]int{
		{0, 0, 1}, {0, 1, 0}, {0, 5, 0}, {0, 255, 0}, {1, 0, 1}, {255, 0, 1},
		{2, 1, 2}, {2, 8, 29}, {2, 255, 1}, {2, 256, 2}, {3, 2, 5}, {255, 255, 1}, {255, 256, 255},
	}
	for _, c := range known {
		got, code := Pow(c[0], c[1])
		want(t, "Pow", c[:2], got, code, c[2], api.OK)
	}
}

func TestPowFactorByFactor(t *testing.T) {
	for a := 0; a <= 255; a++ {
		p := 1
		for n := 0; n <= 520; n++ {
			got, code := Pow(a, n)
			want(t, "Pow", []int{a, n}, got, code, p, api.OK)
			p = longProduct(p, a)
		}
	}
}

// great: exponents that no loop of as many steps would come to the end of; the second number is what is left of them, divided by 255.
var great = [][2]int{{math.MaxInt64, 127}, {math.MaxInt64 - 1, 126}, {math.MaxInt64 - 127, 0}, {1 << 62, 64}, {1 << 40, 1}, {1<<32 - 1, 0}}

func TestPowOfGreatNumbers(t *testing.T) {
	for _, g := range great {
		got, code := Pow(0, g[0])
		want(t, "Pow", []int{0, g[0]}, got, code, 0, api.OK)
		for a := 1; a <= 255; a++ {
			p := 1
			for i := 0; i < g[1]; i++ {
				p = longProduct(p, a)
			}
			got, code := Pow(a, g[0])
			want(t, "Pow", []int{a, g[0]}, got, code, p, api.OK)
		}
	}
}

func TestPowBelowZero(t *testing.T) {
	for _, n := range []int{-1, -2, -255, -256, math.MinInt64} {
		for a := 0; a <= 255; a++ {
			got, code := Pow(a, n)
			want(t, "Pow", []int{a, n}, got, code, 0, api.ErrRange)
		}
	}
}

func TestExpOfKnown(t *testing.T) {
	known := [][2]int{{0, 1}, {1, 2}, {7, 128}, {8, 29}, {9, 58}, {25, 3}, {127, 204}, {254, 142}, {255, 1}, {256, 2}, {510, 1}, {math.MaxInt64, 204}}
	for _, c := range known {
		got, code := Exp(c[0])
		want(t, "Exp", c[:1], got, code, c[1], api.OK)
	}
}

func TestExpIsPowOfTwo(t *testing.T) {
	p := 1
	for n := 0; n <= 1000; n++ {
		got, code := Exp(n)
		want(t, "Exp", []int{n}, got, code, p, api.OK)
		p = longProduct(p, 2)
	}
	for _, g := range great {
		small, _ := Exp(g[1])
		got, code := Exp(g[0])
		want(t, "Exp", g[:1], got, code, small, api.OK)
	}
}

func TestExpBelowZero(t *testing.T) {
	for _, n := range []int{-1, -2, -255, -256, math.MinInt64} {
		got, code := Exp(n)
		want(t, "Exp", []int{n}, got, code, 0, api.ErrRange)
	}
}

func TestLogOfKnown(t *testing.T) {
	for _, c := range [][2]int{{1, 0}, {2, 1}, {3, 25}, {29, 8}, {128, 7}, {142, 254}, {204, 127}, {255, 175}} {
		got, code := Log(c[0])
		want(t, "Log", c[:1], got, code, c[1], api.OK)
	}
}

func TestLogIsTheLeast(t *testing.T) {
	for a := 1; a <= 255; a++ {
		least := 0
		for p := 1; p != a; p = longProduct(p, 2) {
			least++
			if least > 255 {
				t.Fatalf("%d is no power of 2", a)
			}
		}
		got, code := Log(a)
		want(t, "Log", []int{a}, got, code, least, api.OK)
		got, code = Exp(got)
		want(t, "Exp of Log", []int{a}, got, code, a, api.OK)
	}
}

func TestLogOfZero(t *testing.T) {
	got, code := Log(0)
	want(t, "Log", []int{0}, got, code, 0, api.ErrZero)
}

// What comes of it: it is a field.

func TestField(t *testing.T) {
	some := []int{0, 1, 2, 3, 7, 16, 29, 77, 127, 128, 142, 200, 254, 255}
	for a := 0; a <= 255; a++ {
		for _, b := range some {
			ab, _ := Mul(a, b)
			ba, code := Mul(b, a)
			want(t, "Mul turned round", []int{a, b}, ba, code, ab, api.OK)
			for _, c := range some {
				bc, _ := Mul(b, c)
				left, _ := Mul(ab, c)
				right, code := Mul(a, bc)
				want(t, "Mul of three", []int{a, b, c}, right, code, left, api.OK)
				sum, _ := Add(b, c)
				ac, _ := Mul(a, c)
				apart, _ := Add(ab, ac)
				whole, code := Mul(a, sum)
				want(t, "Mul of a sum", []int{a, b, c}, whole, code, apart, api.OK)
			}
		}
	}
}
