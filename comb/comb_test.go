package comb

import (
	"fmt"
	"math"
	"math/rand"
	"reflect"
	"slices"
	"testing"

	"yucca/api"
)

func row(l ...int) []api.Pair {
	var r []api.Pair
	for i := 0; i < len(l); i += 2 {
		r = append(r, api.Pair{At: l[i], Val: l[i+1]})
	}
	return r
}

func TestLay(t *testing.T) {
	for i, c := range []struct {
		rows [][]api.Pair
		want string
	}{
		{nil, "{[] [] []}"},
		{[][]api.Pair{nil, {}}, "{[0 0] [] []}"},
		{[][]api.Pair{row(0, 5, 2, 6), row(1, 7)}, "{[0 0] [5 7 6] [1 2 1]}"},
		{[][]api.Pair{row(3, 5)}, "{[0] [0 0 0 5] [0 0 0 1]}"},
		{[][]api.Pair{row(0, 1), row(0, 2), row(0, 3, 1, 4)}, "{[2 3 0] [3 4 1 2] [3 3 1 2]}"},
		{[][]api.Pair{row(2, 1, 0, 2), nil, row(2, 3, 0, 4), row(3, 0, 1, -9)}, "{[0 0 1 3] [2 4 1 3 -9 0 0] [1 3 1 3 4 0 4]}"},
		{[][]api.Pair{row(1, 1, 0, 2), row(5, 3)}, "{[0 0] [2 1 0 0 0 3] [1 1 0 0 0 2]}"},
	} {
		if got := fmt.Sprint(Lay(c.rows)); got != c.want {
			t.Errorf("%d: %s, not %s", i, got, c.want)
		}
	}
}

func TestLayOfOthers(t *testing.T) {
	for i, rows := range [][][]api.Pair{
		make([][]api.Pair, 401), {row(1000, 1)}, {row(-1, 1)}, {row(math.MaxInt, 1)}, {row(0, 1), row(5, 1, 6, 1, 5, 2)}, {row(5, 1, 5, 1)},
	} {
		if c := Lay(rows); !reflect.DeepEqual(c, api.Comb{}) {
			t.Errorf("%d: %v", i, c)
		}
	}
	if c := Lay(make([][]api.Pair, 400)); len(c.Base) != 400 || len(c.Val) != 0 {
		t.Error("400 rows")
	}
	if c := Lay([][]api.Pair{row(999, 7)}); len(c.Val) != 1000 || c.Val[999] != 7 {
		t.Error("999")
	}
}

func TestGet(t *testing.T) {
	c := Lay([][]api.Pair{row(0, 5, 2, 6), row(1, 0), nil, row(999, 3, 0, 2)})
	for _, w := range [][3]int{{0, 0, 5}, {0, 2, 6}, {1, 1, 0}, {3, 999, 3}, {3, 0, 2}} {
		if v, ok := Get(c, w[0], w[1]); v != w[2] || !ok {
			t.Errorf("%v: %d, %v", w, v, ok)
		}
	}
	for _, w := range [][2]int{{0, 1}, {0, 3}, {1, 0}, {1, 2}, {2, 0}, {2, 1}, {4, 0}, {-1, 0}, {0, -1}, {3, 1}, {3, 1000}, {0, math.MaxInt}, {3, math.MaxInt}, {math.MaxInt, 0}, {math.MinInt, math.MinInt}} {
		if v, ok := Get(c, w[0], w[1]); v != 0 || ok {
			t.Errorf("%v: %d, %v", w, v, ok)
		}
	}
	if v, ok := Get(api.Comb{}, 0, 0); v != 0 || ok {
		t.Error("of nothing")
	}
}

// slow lays rows place by place.
func slow(rows [][]api.Pair) api.Comb {
	c := api.Comb{Base: make([]int, len(rows))}
	taken := map[int]int{}
	last := -1
	for size := 1000; size > 0; size-- {
		for i, r := range rows {
			if len(r) != size {
				continue
			}
			base := 0
			for slices.ContainsFunc(r, func(p api.Pair) bool { return taken[base+p.At] != 0 }) {
				base++
			}
			c.Base[i] = base
			for _, p := range r {
				taken[base+p.At] = i + 1
				last = max(last, base+p.At)
			}
		}
	}
	for at := range last + 1 {
		v := 0
		if who := taken[at]; who > 0 {
			for _, p := range rows[who-1] {
				if c.Base[who-1]+p.At == at {
					v = p.Val
				}
			}
		}
		c.Val = append(c.Val, v)
		c.Chk = append(c.Chk, taken[at])
	}
	return c
}

func TestAgainstPlaceByPlace(t *testing.T) {
	for seed := range int64(150) {
		rnd := rand.New(rand.NewSource(seed))
		wide := []int{4, 40, 200, 1000}[seed%4]
		var rows [][]api.Pair
		for range rnd.Intn(30) {
			var r []api.Pair
			for _, at := range rnd.Perm(wide)[:rnd.Intn(min(wide, 20))] {
				r = append(r, api.Pair{At: at, Val: rnd.Intn(9) - 4})
			}
			rows = append(rows, r)
		}
		before := fmt.Sprint(rows)
		c := Lay(rows)
		if fmt.Sprint(c) != fmt.Sprint(slow(rows)) || fmt.Sprint(rows) != before {
			t.Fatalf("%v: %v, not %v", rows, c, slow(rows))
		}
		for i, r := range rows {
			n := 0
			for at := range 1000 {
				v, ok := Get(c, i, at)
				if ok && !slices.Contains(r, api.Pair{At: at, Val: v}) {
					t.Fatalf("%v: %d, %d: %d", rows, i, at, v)
				}
				if ok {
					n++
				}
			}
			if n != len(r) {
				t.Fatalf("%v: %d: %d pairs", rows, i, n)
			}
		}
	}
}

func TestManyFullRows(t *testing.T) {
	var full []api.Pair
	for at := range 1000 {
		full = append(full, api.Pair{At: 999 - at, Val: at})
	}
	c := Lay(slices.Repeat([][]api.Pair{full}, 400))
	if len(c.Val) != 400000 || c.Base[399] != 399000 {
		t.Error(len(c.Val))
	}
}
