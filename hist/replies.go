package hist

import (
	"slices"

	"varve/api"
)

// isOf: is a code one of these?
func isOf(code api.Errno, codes ...api.Errno) bool { return slices.Contains(codes, code) }

// saysNothing: does a disk, or a log, answer so?
func saysNothing(code api.Errno) bool {
	return isOf(code, api.ErrDiskName, api.ErrDiskNone, api.ErrDiskHas, api.ErrDiskFull, api.ErrDiskOff, api.ErrWalForm, api.ErrWalCorrupt)
}

// aborts: is a transaction over that is answered so?
func aborts(code api.Errno) bool {
	return isOf(code, api.ErrTxnConflict, api.ErrTxnDeadlock, api.ErrTxnFull, api.ErrTxnTime)
}

// isAsked: may a call be answered so before anything is done?
func isAsked(code api.Errno) bool {
	return isOf(code, api.ErrTxnCall, api.ErrTxnNone, api.ErrTxnOpen, api.ErrTxnKey, api.ErrTxnValue)
}

// firstError is what is wrong with a call whose worker has a transaction, or has none: a model tells it, and whatever its rows, it tells the same.
func firstError(c api.Call, open bool) api.Errno {
	m := newModel(nil)
	if open {
		begin(m)
	}
	if r := m.Do(c); isAsked(r.Code) {
		return r.Code
	}
	return api.OK
}

// mayBe: is a reply one of those that a call may have, if its worker has a transaction, or has none? What calls that read and write are answered is held against rows later.
func mayBe(c api.Call, r api.Reply, open bool) bool {
	first := firstError(c, open)
	bare := isSame(r, api.Reply{Code: r.Code})
	switch {
	case first == api.OK && c.Kind >= api.CCheckpoint:
		return true
	case saysNothing(r.Code):
		return bare
	case first != api.OK:
		return bare && r.Code == first
	case c.Kind == api.CBegin:
		return bare && isOf(r.Code, api.OK, api.ErrTxnFull)
	case aborts(r.Code):
		return bare
	case c.Kind == api.CAbort:
		return bare && r.Code == api.OK
	case c.Kind == api.CCommit:
		return isSame(r, api.Reply{Time: r.Time})
	}
	return true
}

func isSame(r, s api.Reply) bool {
	return r.Code == s.Code && r.Val == s.Val && r.Found == s.Found && r.Time == s.Time && r.N == s.N && slices.Equal(r.Rows, s.Rows)
}
