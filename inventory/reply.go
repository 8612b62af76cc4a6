package inventory

import (
	"bytes"
	"slices"

	"stolon/api"
)

// Summary returns the summary of a range.
func (v *Inventory) Summary(low, high []byte) api.Message {
	if v == nil {
		return api.Message{}
	}
	records := v.between(low, high)
	root, _ := Root(records) // an inventory has valid records alone
	return api.Message{Kind: api.KindSum, Low: bytes.Clone(low), High: bytes.Clone(high), Count: len(records), Root: root}
}

// Reply takes a message into account and returns its answers.
func (v *Inventory) Reply(msg api.Message) ([]api.Message, api.Errno) {
	if v == nil {
		return nil, api.ErrNil
	}
	var answers []api.Message
	switch msg.Kind {
	case api.KindSum:
		if msg.Count < 0 {
			return nil, api.ErrArg
		}
		answers = v.replySum(msg)
	case api.KindItems:
		if e := checkItems(msg); e != api.OK {
			return nil, e
		}
		answers = v.replyItems(msg)
	default:
		return nil, api.ErrArg
	}
	for i := range answers {
		answers[i].From, answers[i].To = msg.To, msg.From
	}
	return answers, api.OK
}

// replySum answers a summary: with nothing if the own range is the same one, with its records if they are few, otherwise with the summaries of its halves.
func (v *Inventory) replySum(msg api.Message) []api.Message {
	records := v.between(msg.Low, msg.High)
	if len(records) == msg.Count {
		if root, _ := Root(records); root == msg.Root {
			return nil
		}
	}
	if len(records) <= api.SmallRange {
		return []api.Message{items(msg, records, true)}
	}
	middle := keyOf(records[len(records)/2])
	return []api.Message{v.Summary(msg.Low, middle[:]), v.Summary(middle[:], msg.High)}
}

// checkItems returns an error if the records of a message are too many, not valid, or outside of its range.
func checkItems(msg api.Message) api.Errno {
	if len(msg.Records) > api.MaxItems {
		return api.ErrLong
	}
	for _, r := range msg.Records {
		if !Valid(r) || !inRange(r, msg.Low, msg.High) {
			return api.ErrArg
		}
	}
	return api.OK
}

// inRange reports whether a valid record belongs to a range of keys.
func inRange(r api.Record, low, high []byte) bool {
	k := keyOf(r)
	return bytes.Compare(k[:], low) >= 0 && (len(high) == 0 || bytes.Compare(k[:], high) < 0)
}

// replyItems merges the records of a message that was checked, and answers with those that its sender lacks, if it wants them.
func (v *Inventory) replyItems(msg api.Message) []api.Message {
	v.Merge(msg.Records)
	if !msg.Want {
		return nil
	}
	lacking := slices.DeleteFunc(v.Range(msg.Low, msg.High), func(r api.Record) bool {
		return slices.Contains(msg.Records, r)
	})
	var answers []api.Message
	for part := range slices.Chunk(lacking, api.MaxItems) {
		answers = append(answers, items(msg, part, false))
	}
	return answers
}

// items returns a message with records of the range of another message.
func items(msg api.Message, records []api.Record, want bool) api.Message {
	return api.Message{
		Kind: api.KindItems, Low: bytes.Clone(msg.Low), High: bytes.Clone(msg.High),
		Records: slices.Clone(records), Want: want,
	}
}
