package flat

import (
	"reflect"
	"testing"

	"yucca/api"
)

func TestThereAndBack(t *testing.T) {
	x := api.Tables{
		Def: []int{1}, Acts: api.Comb{Base: []int{2}, Val: []int{3}, Chk: []int{4}}, GoDef: []int{5}, Gos: api.Comb{Base: []int{6}, Val: []int{7}, Chk: []int{8}},
		Left: []int{9}, Len: []int{10}, Nums: []api.Pair{{At: 11, Val: 12}},
	}
	l := Lists(x)
	if len(l) != len(Names()) {
		t.Fatal(len(l))
	}
	for i := range l {
		if len(l[i]) != 1 || l[i][0] != i+1 {
			t.Errorf("%s: %v", Names()[i], l[i])
		}
	}
	if back, ok := Tables(l); !ok || !reflect.DeepEqual(back, x) {
		t.Errorf("%v", back)
	}
	l[11] = nil
	if back, ok := Tables(l); ok || !reflect.DeepEqual(back, api.Tables{}) {
		t.Errorf("%v", back)
	}
}
