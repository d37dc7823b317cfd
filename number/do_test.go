package number_test

import (
	"math"
	"math/big"
	"testing"

	"waterwheel/api"
	"waterwheel/number"
)

// someInts has integers near each power of two and near the roots of the
// greatest ones, of both signs, and the least and the greatest integer.
func someInts() []int64 {
	l := []int64{0, math.MinInt64, math.MinInt64 + 1, math.MaxInt64 - 1, math.MaxInt64}
	for n := range 63 {
		x := int64(1) << n
		l = append(l, x-1, x, x+1, -x+1, -x, -x-1)
	}
	for _, x := range []int64{3, 7, 10, 3037000499, 3037000500, math.MaxInt64 / 3, math.MaxInt64/3 + 1, math.MaxInt64 / 7} {
		l = append(l, x, -x)
	}
	return l
}

// isOver is the value that is over.
func isOver() api.Value {
	return api.Value{Over: true}
}

// invalid has values that are not valid.
func invalid() []api.Value {
	return []api.Value{{N: 1, Over: true}, {N: -1, Over: true}, {N: math.MinInt64, Over: true}, {N: math.MaxInt64, Over: true}}
}

// exactly returns the value of an integer of any size.
func exactly(x *big.Int) api.Value {
	if !x.IsInt64() {
		return isOver()
	}
	return api.Value{N: x.Int64()}
}

// P2.1: Check.
func TestCheck(t *testing.T) {
	for _, n := range someInts() {
		if e := number.Check(api.Value{N: n}); e != api.OK {
			t.Errorf("Check of %d: error %d", n, e)
		}
		want := api.ErrArg
		if n == 0 {
			want = api.OK
		}
		if e := number.Check(api.Value{N: n, Over: true}); e != want {
			t.Errorf("Check of over with %d: error %d, not %d", n, e, want)
		}
	}
}

// P2.1: Of.
func TestOf(t *testing.T) {
	for _, n := range someInts() {
		if v := number.Of(n); v != (api.Value{N: n}) {
			t.Errorf("Of %d is %v", n, v)
		}
	}
}

// P2.1: Do at the limits of what is in range.
func TestDoLimits(t *testing.T) {
	const least, most = math.MinInt64, math.MaxInt64
	for _, c := range []struct {
		op   int
		a, b int64
		want api.Value
	}{
		{api.OpAdd, 2, 3, api.Value{N: 5}},
		{api.OpSub, 2, 3, api.Value{N: -1}},
		{api.OpMul, 2, 3, api.Value{N: 6}},

		{api.OpAdd, most, 0, api.Value{N: most}},
		{api.OpAdd, most - 1, 1, api.Value{N: most}},
		{api.OpAdd, most, 1, isOver()},
		{api.OpAdd, most, most, isOver()},
		{api.OpAdd, least, 0, api.Value{N: least}},
		{api.OpAdd, least + 1, -1, api.Value{N: least}},
		{api.OpAdd, least, -1, isOver()},
		{api.OpAdd, least, least, isOver()},
		{api.OpAdd, least, most, api.Value{N: -1}},

		{api.OpSub, least + 1, 1, api.Value{N: least}},
		{api.OpSub, least, 1, isOver()},
		{api.OpSub, -1, least, api.Value{N: most}},
		{api.OpSub, 0, least, isOver()},
		{api.OpSub, most, -1, isOver()},
		{api.OpSub, -1, most, api.Value{N: least}},
		{api.OpSub, -2, most, isOver()},
		{api.OpSub, least, least, api.Value{}},
		{api.OpSub, most, least, isOver()},

		{api.OpMul, 1 << 32, 1 << 31, isOver()},
		{api.OpMul, -1 << 32, 1 << 31, api.Value{N: least}},
		{api.OpMul, 1 << 32, -1 << 31, api.Value{N: least}},
		{api.OpMul, -1 << 32, -1 << 31, isOver()},
		{api.OpMul, 1 << 32, 1<<31 - 1, api.Value{N: most - 1<<32 + 1}},
		{api.OpMul, least, 1, api.Value{N: least}},
		{api.OpMul, least, -1, isOver()},
		{api.OpMul, least, 0, api.Value{}},
		{api.OpMul, most, -1, api.Value{N: -most}},
		{api.OpMul, most, 1, api.Value{N: most}},
		{api.OpMul, least, least, isOver()},
		{api.OpMul, least, most, isOver()},
		{api.OpMul, most, most, isOver()},
		{api.OpMul, 1 << 32, 1 << 32, isOver()},
		{api.OpMul, -1 << 32, 1 << 32, isOver()},
	} {
		if v, e := number.Do(c.op, number.Of(c.a), number.Of(c.b)); v != c.want || e != api.OK {
			t.Errorf("Do of %d, %d, %d is %v, %d, not %v", c.op, c.a, c.b, v, e, c.want)
		}
	}
}

// P2.1: Do has the exact result of all pairs, or is over; P2.4: in sums and
// products the order does not count.
func TestDoExactly(t *testing.T) {
	for op, exact := range map[int]func(z, x, y *big.Int) *big.Int{
		api.OpAdd: (*big.Int).Add,
		api.OpSub: (*big.Int).Sub,
		api.OpMul: (*big.Int).Mul,
	} {
		for _, a := range someInts() {
			for _, b := range someInts() {
				want := exactly(exact(new(big.Int), big.NewInt(a), big.NewInt(b)))
				v, e := number.Do(op, number.Of(a), number.Of(b))
				if v != want || e != api.OK {
					t.Fatalf("Do of %d, %d, %d is %v, %d, not %v", op, a, b, v, e, want)
				}
				back, _ := number.Do(op, number.Of(b), number.Of(a))
				if op != api.OpSub && back != v {
					t.Fatalf("Do of %d, %d, %d is %v, but %v", op, b, a, back, v)
				}
			}
		}
	}
}

// P2.1, P2.4: what has an operand that is over is over.
func TestDoOver(t *testing.T) {
	for op := api.OpAdd; op <= api.OpMul; op++ {
		for _, n := range someInts() {
			for _, pair := range [][2]api.Value{{isOver(), number.Of(n)}, {number.Of(n), isOver()}, {isOver(), isOver()}} {
				if v, e := number.Do(op, pair[0], pair[1]); v != isOver() || e != api.OK {
					t.Errorf("Do of %d, %v is %v, %d", op, pair, v, e)
				}
			}
		}
	}
}

// P2.1: Do of what is no operator, or of values that are not valid.
func TestDoErrors(t *testing.T) {
	valid := []api.Value{{}, {N: 7}, isOver()}
	for _, op := range []int{math.MinInt, -1, 0, 4, 5, 6, 7, 8, 9, 10, 257, 1<<32 + 1, math.MaxInt} {
		for _, a := range valid {
			wantNoDo(t, op, a, number.Of(3))
			wantNoDo(t, op, number.Of(3), a)
		}
	}
	for op := api.OpAdd; op <= api.OpMul; op++ {
		for _, bad := range invalid() {
			for _, v := range append(valid, bad) {
				wantNoDo(t, op, bad, v)
				wantNoDo(t, op, v, bad)
			}
		}
	}
}

func wantNoDo(t *testing.T, op int, a, b api.Value) {
	t.Helper()
	if v, e := number.Do(op, a, b); v != (api.Value{}) || e != api.ErrArg {
		t.Errorf("Do of %d, %v, %v is %v, %d", op, a, b, v, e)
	}
}

// P2.1: Is of integers.
func TestIs(t *testing.T) {
	for _, a := range someInts() {
		for _, b := range someInts() {
			for op, want := range map[int]bool{
				api.OpLess:  a < b,
				api.OpMost:  a <= b,
				api.OpMore:  a > b,
				api.OpLeast: a >= b,
				api.OpEq:    a == b,
				api.OpNe:    a != b,
			} {
				if is, e := number.Is(op, number.Of(a), b); is != want || e != api.OK {
					t.Fatalf("Is of %d, %d, %d is %v, %d", op, a, b, is, e)
				}
			}
		}
	}
}

// P2.1: each comparison of what is over is false.
func TestIsOver(t *testing.T) {
	for op := api.OpLess; op <= api.OpNe; op++ {
		for _, n := range someInts() {
			if is, e := number.Is(op, isOver(), n); is || e != api.OK {
				t.Errorf("Is of %d, over, %d is %v, %d", op, n, is, e)
			}
		}
	}
}

// P2.1: Is of what is no comparison, or of a value that is not valid.
func TestIsErrors(t *testing.T) {
	for _, op := range []int{math.MinInt, -1, 0, 1, 2, 3, 10, 260, 1<<32 + 4, math.MaxInt} {
		for _, v := range []api.Value{{}, {N: 3}, isOver()} {
			wantNoIs(t, op, v, 3)
			wantNoIs(t, op, v, 0)
		}
	}
	for op := api.OpLess; op <= api.OpNe; op++ {
		for _, bad := range invalid() {
			for _, n := range []int64{0, bad.N, bad.N / 2, 1, -1} {
				wantNoIs(t, op, bad, n)
			}
		}
	}
}

func wantNoIs(t *testing.T, op int, v api.Value, n int64) {
	t.Helper()
	if is, e := number.Is(op, v, n); is || e != api.ErrArg {
		t.Errorf("Is of %d, %v, %d is %v, %d", op, v, n, is, e)
	}
}
