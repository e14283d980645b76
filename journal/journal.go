// Package journal is layer 25. See shared/doc/25-journal.md.
package journal

import (
	"cleanroom/api"
	"cleanroom/disk"
)

// Journal is specified in shared/doc/25-journal.md.
type Journal struct{}

// Open is specified in shared/doc/25-journal.md.
func Open(d *disk.Disk) (*Journal, api.Errno) { return nil, 0 }

// Append is specified in shared/doc/25-journal.md.
func (j *Journal) Append(l []string) api.Errno { return 0 }

// Records is specified in shared/doc/25-journal.md.
func (j *Journal) Records() []string { return nil }

// Room is specified in shared/doc/25-journal.md.
func (j *Journal) Room() int { return 0 }
