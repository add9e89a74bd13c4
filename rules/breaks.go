package rules

import "etchhouse/api"

// finder finds what breaks rules of one kind.
type finder func(i inspection, yield func(api.Break) bool)

// told returns what is found, one kind behind the other, if there is no fault.
func told(i inspection, f api.Fault, kinds ...finder) ([]api.Break, api.Fault) {
	if f != api.OK {
		return nil, f
	}
	var out []api.Break
	for _, find := range kinds {
		for b := range func(yield func(api.Break) bool) { find(i, yield) } {
			if len(out) == api.MaxFound {
				return nil, api.ErrLarge
			}
			out = append(out, b)
		}
	}
	return out, api.OK
}

// Clear returns the pieces of different groups that are too near to each other.
func Clear(r api.RuleSet, a api.Art, nets []string) ([]api.Break, api.Fault) {
	i, f := inspectNets(r, a, nets)
	return told(i, f, inspection.nearPieces)
}

// Narrow returns the pieces that are thin somewhere.
func Narrow(r api.RuleSet, a api.Art, nets []string) ([]api.Break, api.Fault) {
	i, f := inspectNets(r, a, nets)
	return told(i, f, inspection.narrowPieces)
}

// Rings returns the plated bores, by layers, around which there is too little copper.
func Rings(r api.RuleSet, a api.Art) ([]api.Break, api.Fault) {
	i, f := inspect(r, a)
	return told(i, f, inspection.openRings)
}

// Edges returns the pieces that are too near to the edge.
func Edges(r api.RuleSet, a api.Art) ([]api.Break, api.Fault) {
	i, f := inspect(r, a)
	return told(i, f, inspection.edgePieces)
}

// HoleGaps returns the bores that are too near to each other.
func HoleGaps(r api.RuleSet, a api.Art) ([]api.Break, api.Fault) {
	i, f := inspect(r, a)
	return told(i, f, inspection.nearBores)
}

// All returns all that breaks a rule, in the order of kinds.
func All(r api.RuleSet, a api.Art, nets []string) ([]api.Break, api.Fault) {
	i, f := inspectNets(r, a, nets)
	return told(i, f, inspection.nearPieces, inspection.narrowPieces, inspection.openRings, inspection.edgePieces, inspection.nearBores)
}
