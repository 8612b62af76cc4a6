package wire

import (
	"stolon/api"
	"stolon/digest"
	"stolon/inventory"
)

// writeTable writes a valid table of peers.
func writeTable(w *digest.Writer, table []api.Member) {
	w.U8(uint8(len(table)))
	for _, entry := range table {
		w.U64(entry.Inc)
		w.U8(uint8(entry.Status))
	}
}

// readTable reads a table of peers, valid or not.
func readTable(r *digest.Reader) []api.Member {
	var table []api.Member
	for range int(r.U8()) {
		table = append(table, api.Member{Inc: r.U64(), Status: api.Status(r.U8())})
	}
	return table
}

// writeRecords writes valid records.
func writeRecords(w *digest.Writer, records []api.Record) {
	w.U16(uint16(len(records)))
	for _, record := range records {
		b, _ := inventory.EncodeRecord(record)
		w.Raw(b)
	}
}

// readRecords reads records, and reports whether the bytes of all of them are accepted.
func readRecords(r *digest.Reader) ([]api.Record, bool) {
	var records []api.Record
	for range int(r.U16()) {
		record, e := inventory.DecodeRecord(r.Raw(api.RecordSize))
		if e != api.OK {
			return nil, false // also where the bytes end, however many records should follow
		}
		records = append(records, record)
	}
	return records, true
}

// readDigest reads a digest, or returns a zero digest if the Reader fails.
func readDigest(r *digest.Reader) api.Digest {
	var d api.Digest
	copy(d[:], r.Raw(len(d)))
	return d
}

// bit returns 1 for true and 0 for false.
func bit(b bool) uint8 {
	if b {
		return 1
	}
	return 0
}
