package ring

import (
	"math/big"
	"math/rand"
	"testing"

	"spoondrift/api"
)

// The greatest integer, and the smallest one.
const (
	greatest = 1<<63 - 1
	smallest = -1 << 63
)

// num is a number.
func num(a, b, c, d, k int) api.Num { return api.Num{A: a, B: b, C: c, D: d, K: k} }

// big4 is coefficients without a limit; the oracle calculates with them, in other ways than the package does.
type big4 [4]*big.Int

// exact is coefficients without a limit over r^k.
type exact struct {
	c big4
	k int
}

// exactOf is the number x without a limit.
func exactOf(x api.Num) exact {
	return exact{big4{big.NewInt(int64(x.A)), big.NewInt(int64(x.B)), big.NewInt(int64(x.C)), big.NewInt(int64(x.D))}, x.K}
}

// times is the product of two polynomials in w with w^4 = -1.
func (c big4) times(d big4) big4 {
	var long [7]*big.Int
	for i := range long {
		long[i] = new(big.Int)
	}
	for i := range 4 {
		for j := range 4 {
			long[i+j].Add(long[i+j], new(big.Int).Mul(c[i], d[j]))
		}
	}
	for i := range 3 {
		long[i].Sub(long[i], long[i+4])
	}
	return big4(long[:4])
}

// timesRoots is c times r^n, where r is w - w^3, and r^2 is 2.
func (c big4) timesRoots(n int) big4 {
	c = c.times(big4{new(big.Int).Lsh(big.NewInt(1), uint(n/2)), new(big.Int), new(big.Int), new(big.Int)})
	if n%2 != 0 {
		c = c.times(big4{big.NewInt(0), big.NewInt(1), big.NewInt(0), big.NewInt(-1)})
	}
	return c
}

// plus is x + y, over the product of what is below them.
func (x exact) plus(y exact) exact {
	a, b := x.c.timesRoots(y.k), y.c.timesRoots(x.k)
	for i := range a {
		a[i] = new(big.Int).Add(a[i], b[i])
	}
	return exact{a, x.k + y.k}
}

// times is x times y.
func (x exact) times(y exact) exact { return exact{x.c.times(y.c), x.k + y.k} }

// minus is -x.
func (x exact) minus() exact { return exact{exactOf(num(-1, 0, 0, 0, 0)).c.times(x.c), x.k} }

// least goes through all K from 0 on and returns the first form with integers: ErrLarge if it is not right.
func (x exact) least() (api.Num, api.Errno) {
	two := new(big.Int).Lsh(big.NewInt(1), uint(x.k)) // r^k times r^k
	for k := 0; ; k++ {
		c, whole := x.c.timesRoots(x.k+k), true
		for i := range c {
			rest := new(big.Int)
			q, _ := new(big.Int).QuoRem(c[i], two, rest)
			whole = whole && rest.Sign() == 0
			c[i] = q
		}
		if !whole {
			continue
		}
		limit := big.NewInt(api.MaxCoef)
		for i := range c {
			if k > api.MaxRoot || c[i].CmpAbs(limit) > 0 {
				return api.Num{}, api.ErrLarge
			}
		}
		return num(int(c[0].Int64()), int(c[1].Int64()), int(c[2].Int64()), int(c[3].Int64()), k), api.OK
	}
}

// over is x / y by solving four equations in fractions, for a y that is not 0: ErrNone if a fraction has a
// denominator that is no power of 2.
func (x exact) over(y exact) (api.Num, api.Errno) {
	a, b := x.c.timesRoots(y.k), y.c.timesRoots(x.k)
	z := solve(b, a)
	shift := 0
	for _, f := range z {
		d := f.Denom()
		if n := d.BitLen() - 1; d.TrailingZeroBits() == uint(n) {
			shift = max(shift, n)
		} else {
			return api.Num{}, api.ErrNone
		}
	}
	var c big4
	for i, f := range z {
		c[i] = new(big.Int).Lsh(f.Num(), uint(shift))
		c[i].Quo(c[i], f.Denom())
	}
	return exact{c, 2 * shift}.least()
}

// solve returns the fractions z with z b = a, by elimination.
func solve(b, a big4) [4]*big.Rat {
	var rows [4][5]*big.Rat
	for j := range 4 {
		unit := big4{new(big.Int), new(big.Int), new(big.Int), new(big.Int)}
		unit[j] = big.NewInt(1)
		column := unit.times(b)
		for i := range 4 {
			rows[i][j] = new(big.Rat).SetInt(column[i])
		}
		rows[j][4] = new(big.Rat).SetInt(a[j])
	}
	for j := range 4 {
		lead := j
		for rows[lead][j].Sign() == 0 {
			lead++
		}
		rows[j], rows[lead] = rows[lead], rows[j]
		inverse := new(big.Rat).Inv(rows[j][j])
		for k := range 5 {
			rows[j][k] = new(big.Rat).Mul(rows[j][k], inverse)
		}
		for i := range 4 {
			if factor := rows[i][j]; i != j {
				for k := range 5 {
					rows[i][k] = new(big.Rat).Sub(rows[i][k], new(big.Rat).Mul(factor, rows[j][k]))
				}
			}
		}
	}
	return [4]*big.Rat{rows[0][4], rows[1][4], rows[2][4], rows[3][4]}
}

// sign is the sign of a real number, by a root of 2 with 400 bits.
func (x exact) sign() int {
	root := new(big.Float).SetPrec(400).Sqrt(new(big.Float).SetPrec(400).SetInt64(2))
	a := new(big.Float).SetPrec(400).SetInt(x.c[0])
	b := new(big.Float).SetPrec(400).SetInt(x.c[1])
	return a.Add(a, b.Mul(b, root)).Sign()
}

// samples are numbers of all sizes, always the same ones: small ones, those near the limits, and even ones.
func samples(count int) []api.Num {
	r := rand.New(rand.NewSource(7))
	part := func(kind int) int {
		switch kind {
		case 0:
			return r.Intn(5) - 2
		case 1:
			return r.Intn(2*MaxPart+1) - MaxPart
		case 2:
			return []int{0, api.MaxCoef, -api.MaxCoef, api.MaxCoef - 1, 1, -1}[r.Intn(6)]
		case 3:
			return (r.Intn(9) - 4) << r.Intn(28)
		}
		return r.Intn(2*api.MaxCoef+1) - api.MaxCoef
	}
	l := make([]api.Num, count)
	for i := range l {
		kind := i % 5
		l[i] = num(part(kind), part(kind), part(kind), part(kind), []int{0, 1, 2, 5, 30, 59, 60, r.Intn(61)}[r.Intn(8)])
		if r.Intn(4) == 0 {
			l[i].B, l[i].D = 0, 0
		}
	}
	return l
}

// realSamples are real numbers of all sizes.
func realSamples(count int) []api.Num {
	l := samples(count)
	for i, x := range l {
		l[i] = num(x.A, x.B, 0, -x.B, x.K)
	}
	return l
}

// wrongNumbers are numbers that are not right, with their errors: ErrRange comes first.
func wrongNumbers() map[api.Num]api.Errno {
	wrong := map[api.Num]api.Errno{
		num(0, 0, 0, 0, api.MaxRoot+1):             api.ErrRange,
		num(0, 0, 0, 0, -1):                        api.ErrRange,
		num(1, 0, 0, 0, greatest):                  api.ErrRange,
		num(1, 0, 0, 0, smallest):                  api.ErrRange,
		num(api.MaxCoef+1, 0, 0, 0, api.MaxRoot+1): api.ErrRange,
		num(smallest, 0, 0, greatest, -1):          api.ErrRange,
	}
	for _, part := range []int{api.MaxCoef + 1, -api.MaxCoef - 1, greatest, smallest, smallest + 1} {
		wrong[num(part, 0, 0, 0, 0)] = api.ErrLarge
		wrong[num(0, part, 0, 0, 0)] = api.ErrLarge
		wrong[num(0, 0, part, 0, 1)] = api.ErrLarge
		wrong[num(0, 0, 0, part, api.MaxRoot)] = api.ErrLarge
		wrong[num(part, part, part, part, 2)] = api.ErrLarge
	}
	return wrong
}

// wantNum fails the test if a result is not the one that is wanted.
func wantNum(t *testing.T, what string, got api.Num, e api.Errno, want api.Num, f api.Errno) {
	t.Helper()
	if got != want || e != f {
		t.Errorf("%s: %v, error %d; want %v, error %d", what, got, e, want, f)
	}
}
