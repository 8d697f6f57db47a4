package record

import (
	"bytes"
	"slices"

	"understudy/api"
)

// Same tells whether both records are the same.
func Same(a, b api.Record) bool {
	return a.Kind == b.Kind && a.Xid == b.Xid && a.Page == b.Page && a.Off == b.Off &&
		bytes.Equal(a.Bytes, b.Bytes) && slices.Equal(a.Subs, b.Subs) &&
		a.Next == b.Next && a.Redo == b.Redo && a.Timeline == b.Timeline
}

// Name is what a kind is called; of a number that is none's an empty text.
func Name(k api.RecKind) string {
	switch k {
	case api.RecChange:
		return "change"
	case api.RecImage:
		return "image"
	case api.RecCommit:
		return "commit"
	case api.RecAbort:
		return "abort"
	case api.RecCleanup:
		return "cleanup"
	case api.RecRunning:
		return "running"
	case api.RecCheck:
		return "check"
	case api.RecSwitch:
		return "switch"
	}
	return ""
}
