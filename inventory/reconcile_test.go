package inventory_test

import (
	"fmt"
	"math/rand/v2"
	"slices"
	"testing"

	"stolon/api"
	"stolon/inventory"
)

// reconcile sends the summary of the first of two inventories to the second one, delivers all messages, in an order that `next` chooses, and returns how many there were.
func reconcile(t *testing.T, both [2]*inventory.Inventory, next func(waiting int) int) int {
	t.Helper()
	first := both[0].Summary(nil, nil)
	first.From, first.To = 0, 1
	waiting := []api.Message{first}
	count := 0
	for len(waiting) > 0 {
		if count++; count > 100000 {
			t.Fatal("there is no end of messages")
		}
		i := next(len(waiting))
		msg := waiting[i]
		waiting = slices.Delete(waiting, i, i+1)
		if msg.From != 1-msg.To || msg.Kind == api.KindItems && len(msg.Records) > 64 {
			t.Fatal("a message that is not right", msg)
		}
		waiting = append(waiting, reply(t, both[msg.To], msg)...)
	}
	return count
}

// deliveries returns functions that choose the first message, the last one, and any one.
func deliveries(r *rand.Rand) map[string]func(waiting int) int {
	return map[string]func(waiting int) int{
		"in order": func(int) int { return 0 },
		"reversed": func(waiting int) int { return waiting - 1 },
		"random":   r.IntN,
	}
}

// P6.12: pairs of inventories of many sizes, with all, many, few or none of the records in common.
func TestReconcile(t *testing.T) {
	r := rand.New(rand.NewPCG(6, 14))
	sizes := []int{0, 1, 7, 8, 9, 16, 17, 64, 65, 66, 130, 300}
	for _, a := range sizes {
		for _, b := range sizes {
			common := randomRecords(r, []int{0, 5, 200}[r.IntN(3)], 60)
			one := append(randomRecords(r, a, 60), common...)
			two := append(randomRecords(r, b, 60), common...)
			want := modelNormal(slices.Concat(one, two))
			for name, next := range deliveries(r) {
				both := [2]*inventory.Inventory{build(t, one...), build(t, two...)}
				reconcile(t, both, next)
				expectRecords(t, fmt.Sprint(a, b, name), both[0], want...)
				expectRecords(t, fmt.Sprint(a, b, name), both[1], want...)
			}
		}
	}
}

// P6.12: inventories with many records that differ in one, and the number of messages that this takes.
func TestReconcileOne(t *testing.T) {
	r := rand.New(rand.NewPCG(6, 15))
	records := append(pieces(500, 1), pieces(500, 2)...)
	for _, x := range []api.Record{base(1, 1), base(1, 2), base(5, 7), grave(numbered(3)), grave(numbered(900)), piece(numbered(250), 1, 1, 9999, false), piece(numbered(499), 9, 1, 1, true), piece(numbered(700), 1, 1, 1, true)} {
		want := modelNormal(append(slices.Clone(records), x))
		for name, next := range deliveries(r) {
			for side := range 2 {
				both := [2]*inventory.Inventory{build(t, records...), build(t, records...)}
				merge(t, both[side], x)
				count := reconcile(t, both, next)
				expectRecords(t, name, both[0], want...)
				expectRecords(t, name, both[1], want...)
				// A base or a grave can make many pieces void; otherwise one path down the ranges is divided.
				if x.Kind == api.RecordPiece && count > 30 {
					t.Error(x, name, count, "messages")
				}
			}
		}
	}
}

// P6.12: equal inventories exchange one message, and empty ones, too.
func TestReconcileEqual(t *testing.T) {
	for _, n := range []int{0, 1, 8, 9, 200} {
		both := [2]*inventory.Inventory{build(t, pieces(n, 1)...), build(t, pieces(n, 1)...)}
		if count := reconcile(t, both, func(int) int { return 0 }); count != 1 {
			t.Error(n, "records:", count, "messages")
		}
		expectRecords(t, "equal", both[0], pieces(n, 1)...)
		expectRecords(t, "equal", both[1], pieces(n, 1)...)
	}
}
