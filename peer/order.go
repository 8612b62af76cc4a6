package peer

import (
	"bytes"
	"slices"

	"stolon/api"
)

// sortedKeys returns the keys of a map in ascending order.
func sortedKeys[K comparable, V any](m map[K]V, compare func(a, b K) int) []K {
	keys := make([]K, 0, len(m))
	for k := range m {
		keys = append(keys, k)
	}
	slices.SortFunc(keys, compare)
	return keys
}

// compareObjects compares the bytes of objects.
func compareObjects(a, b api.Digest) int { return bytes.Compare(a[:], b[:]) }

// ascending returns the objects of some lists in ascending order, each once.
func ascending(lists ...[]api.Digest) []api.Digest {
	objects := slices.Concat(lists...)
	slices.SortFunc(objects, compareObjects)
	return slices.Compact(objects)
}
