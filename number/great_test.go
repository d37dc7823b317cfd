package number_test

import (
	"math"
	"math/big"
	"testing"

	"waterwheel/api"
	"waterwheel/number"
)

// someGreats has great sums whose words are near each limit, with some Overs.
func someGreats() []api.Great {
	highs := []int64{0, 1, 2, -1, -2, math.MaxInt64, math.MaxInt64 - 1, math.MinInt64, math.MinInt64 + 1}
	lows := []uint64{0, 1, math.MaxInt64 - 1, math.MaxInt64, 1 << 63, 1<<63 + 1, math.MaxUint64 - 1, math.MaxUint64}
	var l []api.Great
	for _, high := range highs {
		for _, low := range lows {
			for _, overs := range []uint64{0, 1, math.MaxUint64} {
				l = append(l, api.Great{High: high, Low: low, Overs: overs})
			}
		}
	}
	return l
}

// bigOf returns the integer of g.
func bigOf(g api.Great) *big.Int {
	x := new(big.Int).Lsh(big.NewInt(g.High), 64)
	return x.Add(x, new(big.Int).SetUint64(g.Low))
}

// greatOf returns the great sum of an integer modulo 2^128.
func greatOf(x *big.Int, overs uint64) api.Great {
	word := new(big.Int).SetUint64(math.MaxUint64)
	low := new(big.Int).And(x, word).Uint64()
	high := new(big.Int).And(new(big.Int).Rsh(x, 64), word).Uint64()
	return api.Great{High: int64(high), Low: low, Overs: overs}
}

// noise returns integers that look like chance and are always the same: the
// high bits of seed, which it moves on.
func noise(seed *uint64) int64 {
	*seed = *seed*6364136223846793005 + 1442695040888963407
	return int64(*seed ^ *seed>>32)
}

// P2.2: Put and Take are exact modulo 2^128, and leave Overs alone.
func TestPutTake(t *testing.T) {
	for _, g := range someGreats() {
		for _, n := range someInts() {
			x := bigOf(g)
			want := greatOf(new(big.Int).Add(x, big.NewInt(n)), g.Overs)
			if got := number.Put(g, number.Of(n)); got != want {
				t.Fatalf("Put of %v, %d is %v, not %v", g, n, got, want)
			}
			want = greatOf(new(big.Int).Sub(x, big.NewInt(n)), g.Overs)
			if got := number.Take(g, number.Of(n)); got != want {
				t.Fatalf("Take of %v, %d is %v, not %v", g, n, got, want)
			}
		}
	}
}

// P2.2: carries between the words, and at the ends of 2^128.
func TestCarries(t *testing.T) {
	const least, most = math.MinInt64, math.MaxInt64
	for _, c := range []struct {
		g         api.Great
		n         int64
		put, take api.Great
	}{
		{api.Great{}, 1, api.Great{Low: 1}, api.Great{High: -1, Low: math.MaxUint64}},
		{api.Great{}, -1, api.Great{High: -1, Low: math.MaxUint64}, api.Great{Low: 1}},
		{api.Great{}, least, api.Great{High: -1, Low: 1 << 63}, api.Great{Low: 1 << 63}},
		{api.Great{Low: math.MaxUint64}, 1, api.Great{High: 1}, api.Great{Low: math.MaxUint64 - 1}},
		{api.Great{High: 1}, -1, api.Great{Low: math.MaxUint64}, api.Great{High: 1, Low: 1}},
		{api.Great{High: most, Low: math.MaxUint64}, 1, api.Great{High: least}, api.Great{High: most, Low: math.MaxUint64 - 1}},
		{api.Great{High: least}, -1, api.Great{High: most, Low: math.MaxUint64}, api.Great{High: least, Low: 1}},
		{api.Great{High: least}, 1, api.Great{High: least, Low: 1}, api.Great{High: most, Low: math.MaxUint64}},
	} {
		if got := number.Put(c.g, number.Of(c.n)); got != c.put {
			t.Errorf("Put of %v, %d is %v, not %v", c.g, c.n, got, c.put)
		}
		if got := number.Take(c.g, number.Of(c.n)); got != c.take {
			t.Errorf("Take of %v, %d is %v, not %v", c.g, c.n, got, c.take)
		}
	}
}

// P2.2: what is over changes Overs alone, modulo 2^64, whatever its N.
func TestOvers(t *testing.T) {
	for _, g := range someGreats() {
		for _, v := range append(invalid(), isOver()) {
			put, take := g, g
			put.Overs++
			take.Overs--
			if got := number.Put(g, v); got != put {
				t.Errorf("Put of %v, %v is %v", g, v, got)
			}
			if got := number.Take(g, v); got != take {
				t.Errorf("Take of %v, %v is %v", g, v, got)
			}
		}
	}
	if got := number.Take(api.Great{}, isOver()); got != (api.Great{Overs: math.MaxUint64}) {
		t.Error(got)
	}
	if got := number.Put(api.Great{Low: 3, Overs: math.MaxUint64}, isOver()); got != (api.Great{Low: 3}) {
		t.Error(got)
	}
}

// P2.2: Both is exact modulo 2^128, and its Overs modulo 2^64.
func TestBoth(t *testing.T) {
	for _, g := range someGreats() {
		for _, h := range someGreats() {
			want := greatOf(new(big.Int).Add(bigOf(g), bigOf(h)), g.Overs+h.Overs)
			if got := number.Both(g, h); got != want {
				t.Fatalf("Both of %v, %v is %v, not %v", g, h, got, want)
			}
		}
	}
	g := api.Great{High: math.MaxInt64, Low: math.MaxUint64, Overs: math.MaxUint64}
	if got := number.Both(g, api.Great{Low: 1, Overs: 1}); got != (api.Great{High: math.MinInt64}) {
		t.Error(got)
	}
	if got := number.Both(g, g); got != (api.Great{High: -1, Low: math.MaxUint64 - 1, Overs: math.MaxUint64 - 1}) {
		t.Error(got)
	}
}

// P2.2: Value, compared with its definition.
func TestValue(t *testing.T) {
	for _, g := range someGreats() {
		want := exactly(bigOf(g))
		if g.Overs != 0 {
			want = isOver()
		}
		if got := number.Value(g); got != want {
			t.Errorf("Value of %v is %v, not %v", g, got, want)
		}
	}
}

// P2.2: Value at its limits.
func TestValueLimits(t *testing.T) {
	for _, c := range []struct {
		g    api.Great
		want api.Value
	}{
		{api.Great{}, api.Value{}},
		{api.Great{Low: 5}, api.Value{N: 5}},
		{api.Great{Low: 5, Overs: 1}, isOver()},
		{api.Great{Low: 5, Overs: 1 << 63}, isOver()},
		{api.Great{Low: math.MaxInt64}, api.Value{N: math.MaxInt64}},
		{api.Great{Low: 1 << 63}, isOver()},
		{api.Great{Low: math.MaxUint64}, isOver()},
		{api.Great{High: -1, Low: math.MaxUint64}, api.Value{N: -1}},
		{api.Great{High: -1, Low: 1 << 63}, api.Value{N: math.MinInt64}},
		{api.Great{High: -1, Low: 1<<63 - 1}, isOver()},
		{api.Great{High: -1}, isOver()},
		{api.Great{High: 1}, isOver()},
		{api.Great{High: -2, Low: math.MaxUint64}, isOver()},
		{api.Great{High: 1 << 32, Low: 7}, isOver()},
		{api.Great{High: math.MinInt64}, isOver()},
		{api.Great{High: math.MinInt64, Low: 1 << 63}, isOver()},
	} {
		if got := number.Value(c.g); got != c.want {
			t.Errorf("Value of %v is %v, not %v", c.g, got, c.want)
		}
	}
}

// P2.2: a sum that has left the range of its value comes back.
func TestSumComesBack(t *testing.T) {
	most := number.Of(math.MaxInt64)
	g := number.Put(number.Put(api.Great{}, most), number.Of(1))
	if v := number.Value(g); v != isOver() {
		t.Error(v)
	}
	if v := number.Value(number.Take(g, number.Of(1))); v != most {
		t.Error(v)
	}
	least := number.Of(math.MinInt64)
	g = number.Take(number.Put(api.Great{}, least), number.Of(1))
	if v := number.Value(g); v != isOver() {
		t.Error(v)
	}
	if v := number.Value(number.Put(g, number.Of(1))); v != least {
		t.Error(v)
	}
	g = number.Put(number.Put(api.Great{}, number.Of(7)), isOver())
	if v := number.Value(g); v != isOver() {
		t.Error(v)
	}
	if v := number.Value(number.Take(g, isOver())); v != number.Of(7) {
		t.Error(v)
	}
}

// P2.4: the value of what was added and subtracted again, in any order, is
// that of the exact sum, also while the sum is past 64 bits.
func TestExactSums(t *testing.T) {
	seed := uint64(1)
	for range 300 {
		var values []api.Value
		for range 40 {
			values = append(values, someValue(&seed))
		}
		g, exact, overs := api.Great{}, new(big.Int), 0
		add := func(v api.Value, times int) {
			if times < 0 {
				g = number.Take(g, v)
			} else {
				g = number.Put(g, v)
			}
			if v.Over {
				overs += times
			}
			exact.Add(exact, new(big.Int).Mul(big.NewInt(v.N), big.NewInt(int64(times))))
			want := exactly(exact)
			if overs != 0 {
				want = isOver()
			}
			if got := number.Value(g); got != want {
				t.Fatalf("Value of %v is %v, not %v", g, got, want)
			}
		}
		for _, v := range values {
			add(v, 1)
		}
		shuffle(values, &seed)
		for _, v := range values {
			add(v, -1)
		}
		if g != (api.Great{}) {
			t.Fatalf("%v is left", g)
		}
	}
}

// P2.4: great sums do not depend on the order, nor on the parts that Both
// puts together.
func TestSumsInAnyOrder(t *testing.T) {
	seed := uint64(2)
	var values []api.Value
	for range 100 {
		values = append(values, someValue(&seed))
	}
	want := total(values)
	for range 100 {
		shuffle(values, &seed)
		if got := total(values); got != want {
			t.Fatalf("%v, not %v", got, want)
		}
		at := int(uint64(noise(&seed)) % 101)
		if got := number.Both(total(values[:at]), total(values[at:])); got != want {
			t.Fatalf("both of parts are %v, not %v", got, want)
		}
	}
}

// total returns the great sum of all values.
func total(values []api.Value) (g api.Great) {
	for _, v := range values {
		g = number.Put(g, v)
	}
	return g
}

// someValue returns a value: of any size, the least or the greatest, or over.
func someValue(seed *uint64) api.Value {
	n := noise(seed)
	switch uint64(noise(seed)) % 16 {
	case 0:
		return isOver()
	case 1, 2, 3:
		return number.Of(math.MaxInt64)
	case 4, 5:
		return number.Of(math.MinInt64)
	case 6, 7, 8:
		return number.Of(n >> 48)
	default:
		return number.Of(n)
	}
}

// shuffle changes the order of values.
func shuffle(values []api.Value, seed *uint64) {
	for i := range values {
		j := int(uint64(noise(seed)) % uint64(i+1))
		values[i], values[j] = values[j], values[i]
	}
}
