// Package flat: packed tables as lists of numbers, as they stand in a Go
// text. It stands beside the layers, on api alone.
package flat

import "yucca/api"

// Names tells the names of the lists, in order.
func Names() []string {
	return []string{
		"yyDef", "yyActBase", "yyActVal", "yyActChk",
		"yyGoDef", "yyGoBase", "yyGoVal", "yyGoChk",
		"yyLeft", "yyLen", "yyNumAt", "yyNumVal",
	}
}

// Lists tells the lists of tables, in the order of their names.
func Lists(t api.Tables) [][]int {
	var ats, vals []int
	for _, p := range t.Nums {
		ats = append(ats, p.At)
		vals = append(vals, p.Val)
	}
	return [][]int{
		t.Def, t.Acts.Base, t.Acts.Val, t.Acts.Chk,
		t.GoDef, t.Gos.Base, t.Gos.Val, t.Gos.Chk,
		t.Left, t.Len, ats, vals,
	}
}

// Tables tells the tables whose lists, one of each name, l are; false: the
// last two are not equally long.
func Tables(l [][]int) (api.Tables, bool) {
	ats, vals := l[10], l[11]
	if len(ats) != len(vals) {
		return api.Tables{}, false
	}
	t := api.Tables{
		Def:   l[0],
		Acts:  api.Comb{Base: l[1], Val: l[2], Chk: l[3]},
		GoDef: l[4],
		Gos:   api.Comb{Base: l[5], Val: l[6], Chk: l[7]},
		Left:  l[8],
		Len:   l[9],
	}
	for i, at := range ats {
		t.Nums = append(t.Nums, api.Pair{At: at, Val: vals[i]})
	}
	return t, true
}
