package shelf

import (
	"fmt"
	"math"
	"sync"
	"testing"

	"yucca/api"
	"yucca/gen"
)

const a, b, wrong = "%% a : 'x'", "%% b : 'y' | ", "%% c"

func TestCounts(t *testing.T) {
	for _, c := range []struct {
		room  int
		texts []string
		calls int
	}{
		{1, []string{a, b, a, b}, 3}, {0, []string{a, a, b}, 3}, {-5, []string{a, a}, 2}, {math.MinInt, []string{a, a}, 2}, {2, []string{a, b, a, b, wrong, wrong}, 4},
		{3, []string{a, wrong, wrong, b, a, b, wrong}, 3}, {1, []string{wrong, a, a, wrong}, 3}, {5, nil, 0},
	} {
		s := New(c.room)
		for _, text := range c.texts {
			s.Get(text)
		}
		if gets, calls := s.Counts(); gets != len(c.texts) || calls != c.calls {
			t.Errorf("%d: %q: %d, %d", c.room, c.texts, gets, calls)
		}
	}
}

func TestRoomOfAHundred(t *testing.T) {
	for _, room := range []int{100, 101, math.MaxInt} {
		s := New(room)
		for range 2 {
			for i := range 103 {
				s.Get(fmt.Sprint("?", i))
			}
		}
		if gets, calls := s.Counts(); gets != 206 || calls != 106 {
			t.Errorf("%d: %d, %d", room, gets, calls)
		}
	}
}

func TestTheVeryResult(t *testing.T) {
	s := New(1)
	first, f := s.Get(a)
	if f != (api.Fault{}) || first == nil {
		t.Fatal(f)
	}
	if again, f := s.Get(a); again != first || f != (api.Fault{}) {
		t.Error("another one")
	}
	one, _ := s.Get(b)
	two, _ := s.Get(b)
	if one == two || one == nil || one.Text() != two.Text() {
		t.Error("kept without room")
	}
	want, _ := gen.Generate(a)
	if first.Text() != want.Text() || first.Report() != want.Report() {
		t.Error("not what Generate tells")
	}
	for _, room := range []int{0, 1} {
		s = New(room)
		for range 2 {
			if r, f := s.Get(wrong); r != nil || f != (api.Fault{Err: api.ErrSyntax, At: 4}) {
				t.Error(r, f)
			}
		}
	}
}

func TestManyAtOnce(t *testing.T) {
	s := New(3)
	texts := []string{a, b, wrong}
	var group sync.WaitGroup
	results := make([]*gen.Result, 60)
	for i := range results {
		group.Add(1)
		go func() {
			defer group.Done()
			results[i], _ = s.Get(texts[i%3])
			s.Counts()
			if results[i] != nil {
				results[i].Text()
			}
		}()
	}
	group.Wait()
	if gets, calls := s.Counts(); gets != 60 || calls != 3 {
		t.Error(gets, calls)
	}
	for i, r := range results {
		if r != results[i%3] || (r == nil) != (i%3 == 2) {
			t.Errorf("%d: another one", i)
		}
	}
	if x, y := results[0].Made(); x != 1 || y != 0 {
		t.Error(x, y)
	}
}

func TestManyWithoutRoom(t *testing.T) {
	s := New(2)
	var group sync.WaitGroup
	for i := range 40 {
		group.Add(1)
		go func() {
			defer group.Done()
			s.Get(fmt.Sprint("%% a : 'x' %% ", i%8))
		}()
	}
	group.Wait()
	// Two of the eight texts are kept; each of the others is made five times.
	if gets, calls := s.Counts(); gets != 40 || calls != 2+6*5 {
		t.Error(gets, calls)
	}
}
