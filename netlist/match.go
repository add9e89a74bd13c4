package netlist

import (
	"maps"

	"etchhouse/api"
)

// CheckMatch says whether a matching of two lists is right.
func CheckMatch(t []api.PartType, a, b api.Netlist, parts, nets []api.Pairing) api.Fault {
	wa, wb, f := wireBoth(t, a, b)
	if f != api.OK {
		return f
	}
	if len(parts) > api.MaxParts || len(nets) > api.MaxNets {
		return api.ErrLarge
	}
	sameType := func(i, k int) bool { return wa.kinds[i] == wb.kinds[k] }
	if f := checkPairs(parts, wa.parts, wb.parts, sameType); f != api.OK {
		return f
	}
	netsA, netsB := numbered(a.Nets, netName), numbered(b.Nets, netName)
	anyType := func(i, k int) bool { return true }
	if f := checkPairs(nets, netsA, netsB, anyType); f != api.OK {
		return f
	}
	pairOfA, pairOfB := map[int]int{}, map[int]int{}
	for i, p := range parts {
		pairOfA[wa.parts[p.A]] = i
		pairOfB[wb.parts[p.B]] = i
	}
	marks := marksOfAll(t)
	for _, p := range nets {
		if !maps.Equal(wa.ends(netsA[p.A], pairOfA, marks), wb.ends(netsB[p.B], pairOfB, marks)) {
			return api.ErrClash
		}
	}
	return api.OK
}

// checkPairs validates pairs of names by what the lists have.
func checkPairs(pairs []api.Pairing, a, b map[string]int, sameType func(i, k int) bool) api.Fault {
	taken := once[string]()
	for n, p := range pairs {
		i, okA := a[p.A]
		k, okB := b[p.B]
		switch {
		case !okA || !okB:
			return api.ErrNone
		case !sameType(i, k):
			return api.ErrType
		case n > 0 && p.A <= pairs[n-1].A:
			return api.ErrOrder
		case taken(p.B):
			return api.ErrTwice
		}
	}
	return api.OK
}

// end is where a net ends, whatever the names: the number of a pair of parts, and a mark.
type end struct{ pair, mark int }

// ends counts the pins of a net that are of parts in pairs.
func (w *wiring) ends(net int, pairs map[int]int, marks [][]int) map[end]int {
	count := map[end]int{}
	for _, s := range w.pins[net] {
		if pair, ok := pairs[s.part]; ok {
			count[end{pair, marks[w.kinds[s.part]][s.pin]}]++
		}
	}
	return count
}
